/-
  A parameter that is a slice of bytes, opened. No conditions.
-/
import Derived.Test.YteppocjgodmpdaaDoorQ6
import Derived.Test.YteppocjgodmpdaaDoorRows
import Derived.LaidLaws
import Derived.LaidHandle
import Derived.BigQuiet
namespace Go.Proofs.YteppocjgodmpdaaDoor
set_option maxRecDepth 100000
open Go.RowKit Go.WideShapes
set_option linter.unusedSimpArgs false
set_option linter.unusedVariables false

theorem opens_bytes : Opens Tryd.prog 23 (RSlice 1 RByte) := opens_slice Tryd.underlying23 (by kernel_rfl) (by omega) (opens_byte Tryd.underlying5)
section
variable {H : Type} {enc : TypeId × Value → H} {W : World} {base b1 : Nat} {spare : Nat → Bool} {held : Bool} {r : Reach} {v : Value} {d : DataW H} {p : List MemPlace}
theorem open_bytes (hv : Value.okWide Tryd.prog W r base 23 v) (ht : DataW.Trod enc Tryd.prog W b1 spare held 23 v d p) : ∃ (l : List UInt8) (A : Option Addr) (cap : Nat), v = .slice A l.length cap ∧ l.length ≤ cap ∧ cap ≤ 9223372036854775807 ∧ Rd vB W A l := by
  obtain ⟨a, len, cap, rfl⟩ := okWide_slice Tryd.underlying23 hv
  obtain ⟨fuel, hf⟩ := ht
  obtain ⟨l, hl⟩ := opens_bytes enc W _ _ _ _ _ _ hf
  obtain ⟨A, c, e, h1, h2, h3⟩ := bytes_of_r hl
  simp [Value.cells] at e
  obtain ⟨rfl, rfl, rfl⟩ := e
  exact ⟨l, _, _, rfl, h1, h2, h3⟩
end
end Go.Proofs.YteppocjgodmpdaaDoor
/-
  Structs of four fields, opened. No conditions.
-/
namespace Go.Proofs.YteppocjgodmpdaaDoor
set_option maxRecDepth 100000
open Go.RowKit Go.Deep Go.WideShapes Go.ChangeShapes
set_option linter.unusedSimpArgs false
set_option linter.unusedVariables false

/-- Structs of four fields: each field's cells. -/
def RFour (a0 n0 a1 n1 a2 n2 a3 n3 : Nat) {α β γ δ : Type} (R : World → List Value → α → Prop) (S : World → List Value → β → Prop) (T : World → List Value → γ → Prop) (U : World → List Value → δ → Prop) : World → List Value → α × β × γ × δ → Prop := fun w cs x => cs.length = n0 + n1 + n2 + n3 ∧ R w ((cs.drop a0).take n0) x.1 ∧ S w ((cs.drop a1).take n1) x.2.1 ∧ T w ((cs.drop a2).take n2) x.2.2.1 ∧ U w ((cs.drop a3).take n3) x.2.2.2
theorem opens_four {P : Program} {t : TypeId} {α β γ δ : Type} {R : World → List Value → α → Prop} {S : World → List Value → β → Prop} {T : World → List Value → γ → Prop} {U : World → List Value → δ → Prop} {f0 f1 f2 f3 : Field} {a0 n0 a1 n1 a2 n2 a3 n3 : Nat} (ht : P.underlying t = some (.struct #[f0, f1, f2, f3])) (e0 : f0.offset = a0) (e1 : f1.offset = a1) (e2 : f2.offset = a2) (e3 : f3.offset = a3)
    (c0 : P.cellsOf f0.type = n0) (c1 : P.cellsOf f1.type = n1) (c2 : P.cellsOf f2.type = n2) (c3 : P.cellsOf f3.type = n3) (hn : P.cellsOf t = n0 + n1 + n2 + n3) (h0 : Opens P f0.type R) (h1 : Opens P f1.type S) (h2 : Opens P f2.type T) (h3 : Opens P f3.type U) : Opens P t (RFour a0 n0 a1 n1 a2 n2 a3 n3 R S T U) := fun enc w base spare held fuel cs x h => by
  obtain ⟨xs, n, _, _, hl, hxl, hx⟩ := DataW.trod_struct ht h
  have k0 := hx 0 f0 rfl
  have k1 := hx 1 f1 rfl
  have k2 := hx 2 f2 rfl
  have k3 := hx 3 f3 rfl
  simp only [List.size_toArray, List.length_cons, List.length_nil, Nat.zero_add, Nat.reduceAdd] at hxl
  rw [List.getElem?_eq_getElem (by omega), e0, c0] at k0
  rw [List.getElem?_eq_getElem (by omega), e1, c1] at k1
  rw [List.getElem?_eq_getElem (by omega), e2, c2] at k2
  rw [List.getElem?_eq_getElem (by omega), e3, c3] at k3
  obtain ⟨x0, r0⟩ := h0 enc w base spare held n _ _ k0
  obtain ⟨x1, r1⟩ := h1 enc w base spare held n _ _ k1
  obtain ⟨x2, r2⟩ := h2 enc w base spare held n _ _ k2
  obtain ⟨x3, r3⟩ := h3 enc w base spare held n _ _ k3
  exact ⟨(x0, x1, x2, x3), by omega, r0, r1, r2, r3⟩
end Go.Proofs.YteppocjgodmpdaaDoor
/-
  A parameter that is a payload, opened. No conditions.
-/
namespace Go.Proofs.YteppocjgodmpdaaDoor
set_option maxRecDepth 100000
open Go.RowKit Go.Deep Go.WideShapes Go.ChangeShapes
set_option linter.unusedSimpArgs false
set_option linter.unusedVariables false

theorem opens_payload : Opens Tryd.prog 25 (RFour 0 1 1 1 2 1 3 1 RNum RNum RNum (RSlice 1 RByte)) := opens_four Tryd.underlying25 rfl rfl rfl rfl (by kernel_rfl) (by kernel_rfl) (by kernel_rfl) (by kernel_rfl) (by kernel_rfl) (opens_num Tryd.underlying22) (opens_num Tryd.underlying22) (opens_num Tryd.underlying22) opens_bytes
section
variable {H : Type} {enc : TypeId × Value → H} {W : World} {base b1 : Nat} {spare : Nat → Bool} {held : Bool} {r : Reach} {v : Value} {d : DataW H} {p : List MemPlace}
theorem open_payload (hv : Value.okWide Tryd.prog W r base 25 v) (ht : DataW.Trod enc Tryd.prog W b1 spare held 25 v d p) : ∃ (t e c : Nat) (l : List UInt8) (A : Option Addr) (cap : Nat), v = aggP t e c A l.length cap ∧ t < 18446744073709551616 ∧ e < 18446744073709551616 ∧ c < 18446744073709551616 ∧ l.length ≤ cap ∧ cap ≤ 9223372036854775807 ∧ Rd vB W A l := by
  obtain ⟨cs, rfl, _⟩ := okWide_struct Tryd.underlying25 hv
  obtain ⟨fuel, hf⟩ := ht
  obtain ⟨⟨t, e, c, l⟩, hl, h0, h1, h2, h3⟩ := opens_payload enc W _ _ _ _ _ _ hf
  obtain ⟨A, k, e3, h4, h5, h6⟩ := bytes_of_r h3
  obtain ⟨e0, g0⟩ := h0
  obtain ⟨e1, g1⟩ := h1
  obtain ⟨e2, g2⟩ := h2
  refine ⟨t, e, c, l, A, k, ?_, g0, g1, g2, h4, h5, h6⟩
  unfold aggP
  congr 1
  apply Array.toList_inj.1
  simp only [Value.cells] at hl e0 e1 e2 e3
  match hcs : cs.toList, hl with
  | [x0, x1, x2, x3], _ =>
    rw [hcs] at e0 e1 e2 e3
    simp at e0 e1 e2 e3
    rw [e0, e1, e2, e3]
end
end Go.Proofs.YteppocjgodmpdaaDoor
/-
  What the rows' condition on the package-level variable errors.errorType gives the walks: its one cell, the handle of the type error. Condition: the variable reads as the rows list it.
-/
namespace Go.Proofs.YteppocjgodmpdaaDoor
set_option maxRecDepth 100000
open Go.RowKit

theorem etc_global : Tryd.prog.globalNamed "errors.errorType" = some 0 := by kernel_rfl
theorem etc_rtype : (Tryd.prog.cutTypes.find? (·.1 == "internal/reflectlite.rtype")).map (·.2) = some 108 := by kernel_rfl
theorem etc_one : ((List.range Tryd.prog.types.size).filter fun t => Tryd.prog.rowNamed t [101, 114, 114, 111, 114]) = [28] := by kernel_rfl
theorem etc_of_handles {l : List (String × DataW Unit)} {W : World} (h : handlesMet Tryd.prog l W) (hm : ("errors.errorType", Rows.laid_errors_errorType) ∈ l) : EtC W := by
  obtain ⟨name, u, ty, e1, e2, e3, e4, e5⟩ := h _ hm
  have en : name = [101, 114, 114, 111, 114] := (Option.some.inj e1).symm
  subst en
  obtain rfl := Option.some.inj (etc_rtype.symm.trans e2)
  have hmem : ty ∈ (List.range Tryd.prog.types.size).filter fun t => Tryd.prog.rowNamed t [101, 114, 114, 111, 114] := List.mem_filter.2 ⟨List.mem_range.2 e3, e4⟩
  rw [etc_one] at hmem
  obtain rfl := List.mem_singleton.1 hmem
  have hh : typeHandle Tryd.prog 28 = .pointer (some ⟨1, 28, none⟩) := by kernel_rfl
  rw [hh] at e5
  unfold EtC
  simpa using World.var?_cell etc_global e5 0
theorem etc_of_laid {W : World} (h : laidMetH Tryd.prog [("errors.errorType", Rows.laid_errors_errorType)] W) : EtC W := by
  have h' : laidMet Tryd.prog [] W ∧ handlesMet Tryd.prog [("errors.errorType", Rows.laid_errors_errorType)] W := h
  exact etc_of_handles h'.2 (List.mem_singleton.2 rfl)
end Go.Proofs.YteppocjgodmpdaaDoor
/-
  The law BarsMend, at whatever comes in: it answers true, and writes nothing that was there. Condition: errors.errorType holds the handle of the type error (EtC).
-/
namespace Go.Proofs.YteppocjgodmpdaaDoor
set_option maxRecDepth 100000
open Go.RowKit Go.WideShapes
set_option linter.unusedSimpArgs false
set_option linter.unusedVariables false

theorem barsmend_big (t e c : Nat) (n : Nat) (A : Option Addr) (k : Nat) (ns nb : Nat) (B C : Option Addr) (cs cb : Nat) (w : World) (h : ¬ n ≤ 300) (hn : n ≤ 9223372036854775807) (hg : EtC w) :
    Calls Tryd.prog 3 #[aggP t e c A n k, .slice B ns cs, .slice C nb cb] w fun e₁ w' => e₁ = .returned (.bool true) ∧ Below w.heap.size w w' := by
  have g1 : decide ((300 : Int) < (n : Int)) = true := decide_eq_true (by omega)
  have n1 : 300 < n := by omega
  obtain ⟨hR0, hB0⟩ := box_pay w 25 (.int .u64 (t : Int)) (.int .u64 (e : Int)) (.int .u64 (c : Int)) (.slice A n k)
  unfold aggP
  go_enter Tryd.func3, Tryd.ntmps3
  go_upto_region 1 with fail
  generalize (w.alloc (.cells #[.int .u64 (t : Int), .int .u64 (e : Int), .int .u64 (c : Int), .slice A n k] 25)) = W0 at hR0 hB0 ⊢
  go_wp2_with fail
  refine (awake13_any _ (hg.later hB0)).mono ?_
  rintro e₁ w1 ⟨rfl, hb⟩
  replace hR0 := hR0.later hb
  replace hB0 := below_step hB0 hb
  clear hb h
  have c3 : w1.cell? ⟨w.heap.size, 3, none⟩ = some (.slice A n k) := hR0.cell rfl
  go_wp2_with fail
  go_ret
  exact ⟨rfl, hB0⟩
theorem barsmend_any (v0 v1 v2 : Value) (W : World) {H : Type} {enc : TypeId × Value → H} {base : Nat} {d0 d1 d2 : DataW H} {p0 p1 p2 : List MemPlace}
    (hv0 : Value.okWide Tryd.prog W .any base 25 v0) (ht0 : DataW.Trod enc Tryd.prog W 0 (fun _ => true) true 25 v0 d0 p0) (hv1 : Value.okWide Tryd.prog W .any base 23 v1) (ht1 : DataW.Trod enc Tryd.prog W 0 (fun _ => true) true 23 v1 d1 p1) (hv2 : Value.okWide Tryd.prog W .any base 23 v2) (ht2 : DataW.Trod enc Tryd.prog W 0 (fun _ => true) true 23 v2 d2 p2) (hg : EtC W) :
    Calls Tryd.prog 3 #[v0, v1, v2] W fun e w' => e = .returned (.bool true) ∧ Below W.heap.size W w' := by
  obtain ⟨t, e, c, tag, A, k, rfl, ht, he, hc, hk, hkm, hr⟩ := open_payload hv0 ht0
  obtain ⟨s, B, cs, rfl, hs, hsm, hrs⟩ := open_bytes hv1 ht1
  obtain ⟨b, C, cb, rfl, hb, hbm, hrb⟩ := open_bytes hv2 ht2
  by_cases h : tag.length ≤ 300
  · exact barsmend_core t e c tag _ A k s b _ _ B C cs cb W ht he hc (Lib.hid rfl) hr hk h (Lib.hid rfl) (Lib.hid rfl) hrs hrb hg
  · exact barsmend_big t e c _ A k _ _ B C cs cb W h (by omega) hg
end Go.Proofs.YteppocjgodmpdaaDoor
/-
  Barcodes of any payloads, made; two payloads in their blocks. Condition: errors.errorType holds the handle of the type error (EtC).
-/
namespace Go.Proofs.YteppocjgodmpdaaDoor
set_option maxRecDepth 100000
open Go.RowKit
set_option linter.unusedSimpArgs false
set_option linter.unusedVariables false

def MakH (n : Nat) (t e c : Nat) (tag X : List UInt8) (ev : Value) : Prop := (n = 8 ∧ X = barL t e c tag ∧ ev = .nilIface) ∨ (n ≠ 8 ∧ X = [] ∧ ∃ g, ev = errV g)
theorem makeB_any (t e c : Nat) (tag : List UInt8) (n : Nat) (A : Option Addr) (k : Nat) (w : World) (ht : t < 18446744073709551616) (he : e < 18446744073709551616) (hc : c < 18446744073709551616) (HN : Hid (tag.length = n)) (hr : Rd vB w A tag) (hk : n ≤ k) (hn : n ≤ 100000) (hg : EtC w) :
    Calls Tryd.prog 6 #[aggP t e c A n k] w fun e₁ w' => ∃ X ev A' m c', e₁ = .returned (.tuple #[.slice A' m c', ev]) ∧ Hid (X.length = m) ∧ m ≤ c' ∧ Rd vB w' A' X ∧ Below w.heap.size w w' ∧ Hid (MakH n t e c tag X ev) := by
  by_cases h8 : n = 8
  · subst h8
    refine (makeB_ok t e c tag A k w ht he hc HN hr hk hg).mono ?_
    rintro e₁ w' ⟨A', m, c', h1, h2, h3, h4, h5⟩
    exact ⟨_, _, A', m, c', h1, h2, h3, h4, h5, .inl ⟨rfl, rfl, rfl⟩⟩
  · refine (makeB_no t e c tag n A k w ht he hc HN hr hk hn h8 hg).mono ?_
    rintro e₁ w' ⟨g, h1, h2, h3⟩
    exact ⟨[], _, none, 0, 0, h1, Lib.hid rfl, Nat.le_refl _, Rd.nil, h3, .inr ⟨h8, rfl, g, rfl⟩⟩
/-- Two payloads in their blocks. -/
def TwoB (g : Nat) (cp cq : List Value) (w W : World) : Prop := Row W g 25 cp ∧ Row W (g + 1) 25 cq ∧ Below w.heap.size w W
theorem TwoB.later {g : Nat} {cp cq : List Value} {w W W' : World} (h : TwoB g cp cq w W) (hb : Below W.heap.size W W') : TwoB g cp cq w W' := ⟨h.1.later hb, h.2.1.later hb, below_step h.2.2 hb⟩
theorem two_box (w : World) (a b c d a' b' c' d' : Value) (ty : TypeId) (hty : ty = 25) : TwoB w.heap.size [a, b, c, d] [a', b', c', d'] w ((w.alloc (.cells #[a, b, c, d] ty)).alloc (.cells #[a', b', c', d'] ty)) := by
  subst hty
  have h0 := Row.new w 25 [a, b, c, d] _ rfl
  have h1 := Row.new_at (w.alloc (.cells #[a, b, c, d] 25)) (w.heap.size + 1) (by simp) 25 [a', b', c', d'] _ rfl
  exact ⟨h0.alloc _, h1, below_new (below_new (Below.refl _ _) _) _⟩
end Go.Proofs.YteppocjgodmpdaaDoor
/-
  The walk of the law BarsBack: what is read of any bytes is right, and has a barcode near them; unlike payloads have unlike barcodes. Condition: errors.errorType holds the handle of the type error (EtC).
-/
namespace Go.Proofs.YteppocjgodmpdaaDoor
set_option maxRecDepth 100000
open Go.RowKit
set_option linter.unusedSimpArgs false
set_option linter.unusedVariables false

/-- One place more is counted. -/
theorem cnt_step (X y : List UInt8) (hl : X.length = y.length) (h255 : X.length ≤ 255) (q : Nat) (hq : q < X.length) (wb wr : World) (hb : Below wb.heap.size wb wr) :
    (X[q] = y[q]'(by rw [← hl]; exact hq) → difL (X.take (q + 1)) (y.take (q + 1)) = difL (X.take q) (y.take q)) ∧
      (X[q] ≠ y[q]'(by rw [← hl]; exact hq) → ((difL (X.take q) (y.take q) : Nat) : Int) + 1 = ((difL (X.take (q + 1)) (y.take (q + 1)) : Nat) : Int)) ∧
      difL (X.take (q + 1)) (y.take (q + 1)) ≤ 255 ∧
      ∀ nq, CntR X y wb (.int .i64 ((difL (X.take (q + 1)) (y.take (q + 1)) : Nat) : Int)) (.int .i64 ((q : Int) + 1)) (wr.drewN nq) := by
  have hqy : q < y.length := by rw [← hl]; exact hq
  have hdt := dif_take X y hl q hq
  rw [co_lt X q hq, co_lt y q hqy] at hdt
  refine ⟨fun e => ?_, fun e => ?_, ?_, fun nq => ⟨q + 1, hq, by go_num, rfl, below_drewN hb nq⟩⟩
  · rw [hdt, if_pos e, Nat.add_zero]
  · rw [hdt, if_neg e]
    omega
  · have := wt_le (List.zipWith addB (X.take (q + 1)) (y.take (q + 1)))
    rw [List.length_zipWith, List.length_take] at this
    unfold difL
    omega
set_option maxRecDepth 100000 in
set_option maxHeartbeats 8000000 in
theorem barsback_core (b : List UInt8) (m : Nat) (B : Option Addr) (d : Nat) (t e c : Nat) (tag : List UInt8) (n : Nat) (A : Option Addr) (k : Nat) (t' e' c' : Nat) (tag' : List UInt8) (n' : Nat) (A' : Option Addr) (k' : Nat) (w : World)
    (HM : Hid (b.length = m)) (hrb : Rd vB w B b) (hd : m ≤ d) (hm : m ≤ 255)
    (ht : t < 18446744073709551616) (he : e < 18446744073709551616) (hc : c < 18446744073709551616) (HN : Hid (tag.length = n)) (hrt : Rd vB w A tag) (hk : n ≤ k) (hn : n ≤ 300)
    (ht' : t' < 18446744073709551616) (he' : e' < 18446744073709551616) (hc' : c' < 18446744073709551616) (HN' : Hid (tag'.length = n')) (hrt' : Rd vB w A' tag') (hk' : n' ≤ k') (hn' : n' ≤ 300) (hg : EtC w) :
    Calls Tryd.prog 4 #[.slice B m d, aggP t e c A n k, aggP t' e' c' A' n' k'] w fun e₁ w' => e₁ = .returned (.bool true) ∧ Below w.heap.size w w' := by
  have g1 : decide ((255 : Int) < (m : Int)) = false := decide_eq_false (by omega)
  have g2 : decide ((300 : Int) < (n : Int)) = false := decide_eq_false (by omega)
  have g3 : decide ((300 : Int) < (n' : Int)) = false := decide_eq_false (by omega)
  have n1 : ¬ 255 < m := by omega
  have n2 : ¬ 300 < n := by omega
  have n3 : ¬ 300 < n' := by omega
  have hT := two_box w (.int .u64 (t : Int)) (.int .u64 (e : Int)) (.int .u64 (c : Int)) (.slice A n k) (.int .u64 (t' : Int)) (.int .u64 (e' : Int)) (.int .u64 (c' : Int)) (.slice A' n' k') _ rfl
  unfold aggP
  go_enter Tryd.func4, Tryd.ntmps4
  go_upto_region 1 with fail
  generalize (w.alloc (.cells #[.int .u64 (t : Int), .int .u64 (e : Int), .int .u64 (c : Int), .slice A n k] 25)).alloc (.cells #[.int .u64 (t' : Int), .int .u64 (e' : Int), .int .u64 (c' : Int), .slice A' n' k'] 25) = W0 at hT ⊢
  have HT := Lib.hid (And.intro ht (And.intro he hc))
  have HT' := Lib.hid (And.intro ht' (And.intro he' hc'))
  clear ht he hc ht' he' hc'
  replace hrt := hrt.keep hT.2.2
  replace hrt' := hrt'.keep hT.2.2
  replace hrb := hrb.keep hT.2.2
  replace hg := hg.later hT.2.2
  go_wp2_with fail
  refine (awake13_any _ hg).mono ?_
  rintro e₁ w1 ⟨rfl, hb⟩
  replace hrt := hrt.keep hb
  replace hrt' := hrt'.keep hb
  replace hrb := hrb.keep hb
  replace hg := hg.later hb
  replace hT := hT.later hb
  clear hb
  have c3 : w1.cell? ⟨w.heap.size, 3, none⟩ = some (.slice A n k) := hT.1.cell rfl
  have d3 : w1.cell? ⟨w.heap.size + 1, 3, none⟩ = some (.slice A' n' k') := hT.2.1.cell rfl
  go_upto_region 5 with fail
  clear g1 g2 g3 n1 n2 n3 c3 d3
  go_wp2_with (refine wpList_load_part rfl 25 (.tmp 4) rfl w.heap.size 0 rfl _ _ hT.1 (cellsP t e c A n k) (by rfl) _ Tryd.underlying25 rfl (by exact size_pay') ?_)
  refine (makeB_any t e c tag n A k _ HT.out.1 HT.out.2.1 HT.out.2.2 HN hrt hk (by omega) hg).mono ?_
  rintro e₁ w2 ⟨X, ex, A1, m1, c1, rfl, HX, hc1, hrx, hb, HWX⟩
  replace hrt := hrt.keep hb
  replace hrt' := hrt'.keep hb
  replace hrb := hrb.keep hb
  replace hg := hg.later hb
  replace hT := hT.later hb
  clear hb
  go_upto_region 6 with fail
  go_wp2_with (refine wpList_load_part rfl 25 (.tmp 5) rfl (w.heap.size + 1) 0 rfl _ _ hT.2.1 (cellsP t' e' c' A' n' k') (by rfl) _ Tryd.underlying25 rfl (by exact size_pay') ?_)
  refine (makeB_any t' e' c' tag' n' A' k' _ HT'.out.1 HT'.out.2.1 HT'.out.2.2 HN' hrt' hk' (by omega) hg).mono ?_
  rintro e₁ w3 ⟨Y, ey, A2, m2, c2, rfl, HY, hc2, hry, hb, HWY⟩
  replace hrt := hrt.keep hb
  replace hrt' := hrt'.keep hb
  replace hrb := hrb.keep hb
  replace hrx := hrx.keep hb
  replace hg := hg.later hb
  replace hT := hT.later hb
  clear hb
  go_upto_region 7 with fail
  go_cut [63] (fun v wx => v = .bool false ∧ Below w3.heap.size w3 wx)
  case first =>
    have cp0 : ∀ W, Below w3.heap.size w3 W → W.cell? ⟨w.heap.size, 0, none⟩ = some (.int .u64 (t : Int)) := fun W hW => (hT.1.later hW).cell rfl
    have cp1 : ∀ W, Below w3.heap.size w3 W → W.cell? ⟨w.heap.size, 1, none⟩ = some (.int .u64 (e : Int)) := fun W hW => (hT.1.later hW).cell rfl
    have cp2 : ∀ W, Below w3.heap.size w3 W → W.cell? ⟨w.heap.size, 2, none⟩ = some (.int .u64 (c : Int)) := fun W hW => (hT.1.later hW).cell rfl
    have cp3 : ∀ W, Below w3.heap.size w3 W → W.cell? ⟨w.heap.size, 3, none⟩ = some (.slice A n k) := fun W hW => (hT.1.later hW).cell rfl
    have cq0 : ∀ W, Below w3.heap.size w3 W → W.cell? ⟨w.heap.size + 1, 0, none⟩ = some (.int .u64 (t' : Int)) := fun W hW => (hT.2.1.later hW).cell rfl
    have cq1 : ∀ W, Below w3.heap.size w3 W → W.cell? ⟨w.heap.size + 1, 1, none⟩ = some (.int .u64 (e' : Int)) := fun W hW => (hT.2.1.later hW).cell rfl
    have cq2 : ∀ W, Below w3.heap.size w3 W → W.cell? ⟨w.heap.size + 1, 2, none⟩ = some (.int .u64 (c' : Int)) := fun W hW => (hT.2.1.later hW).cell rfl
    have cq3 : ∀ W, Below w3.heap.size w3 W → W.cell? ⟨w.heap.size + 1, 3, none⟩ = some (.slice A' n' k') := fun W hW => (hT.2.1.later hW).cell rfl
    have hs1 := strBz (c := c1) m1 HX hrx
    have hs2 := strBz (c := c2) m2 HY hry
    have HRT := Lib.hid (And.intro hrt hrt')
    clear hrx hry hrt hrt' hT hrb hg
    have hBase := (Below.refl w3.heap.size w3).drew
    rcases HWX.out with ⟨h8, hXe, rfl⟩ | ⟨h8, hXe, gx, rfl⟩
    · rcases HWY.out with ⟨h8', hYe, rfl⟩ | ⟨h8', hYe, gy, rfl⟩
      · subst h8
        subst h8'
        have hst : ((strL X).toList == (strL Y).toList) = sameF t e c tag t' e' c' tag' := str_sameB X Y _ (by
          rw [hXe, hYe, bar_inj HT.out.1 HT.out.2.1 HT.out.2.2 HT'.out.1 HT'.out.2.1 HT'.out.2.2 HN.out HN'.out]
          unfold sameF
          rw [decide_eq_true_iff])
        generalize hSM : sameF t e c tag t' e' c' tag' = SM at hst
        have HSM := Lib.hid hSM
        generalize strL X = SX at hs1 hst
        generalize strL Y = SY at hs2 hst
        clear hSM hXe hYe HWX HWY
        refine wp_region_plan (.step 0 false (.step 1 false (.step 2 false (.step 3 false (.step 4 false (.step 5 false (.step 6 false (.step 7 false (.step 8 false (.step 9 false (.step 10 false (.step 11 false (.step 12 false (.step 13 false (.step 14 true (.step 15 false (.step 16 false (.nil)))))))))))))))))) (by kernel_rfl) (by kernel_rfl) (by rfl) (by kernel_rfl) ?_
        iterate 14 (refine plan_read rfl (by rfl) (v := ?_) ?_ ?_; rotate_left 1; (intro W hW; have hW0 := below_step hBase hW; (try dsimp only at hW); go_simp <;> with_reducible rfl); simp only [List.getElem_toArray, List.getElem_cons_zero, List.getElem_cons_succ, Act.put, List.setIfInBounds_toArray, List.set_cons_zero, List.set_cons_succ])
        (refine plan_make rfl (by rfl) (fun K hK => ?_); go_simp; (refine (refsame_pay t e c t' e' c' tag tag' 8 8 A A' k k' _ HN HN' (HRT.out.1.keep hBase) (HRT.out.2.keep hBase)).mono ?_; rintro e₁ w7 ⟨rfl, hbx⟩; rw [HSM.out]); refine hK.out _ _ hbx ?_; clear hK K; replace hBase := below_step hBase hbx)
        iterate 2 (refine plan_read rfl (by rfl) (v := ?_) ?_ ?_; rotate_left 1; (intro W hW; have hW0 := below_step hBase hW; (try dsimp only at hW); go_simp <;> with_reducible rfl); simp only [List.getElem_toArray, List.getElem_cons_zero, List.getElem_cons_succ, Act.put, List.setIfInBounds_toArray, List.set_cons_zero, List.set_cons_succ])
        refine plan_done ?_
        go_wp2_with fail
        go_meet
        case rel => exact ⟨rfl, hBase⟩
      · generalize strL X = SX at hs1
        generalize strL Y = SY at hs2
        clear HWX HWY hXe hYe h8 h8'
        refine wp_region_plan (.step 0 false (.step 1 false (.step 2 false (.step 3 false (.step 4 false (.step 5 false (.step 6 false (.step 7 false (.step 8 false (.step 9 false (.step 10 false (.step 11 false (.step 12 false (.step 13 false (.step 14 true (.step 15 false (.step 16 false (.nil)))))))))))))))))) (by kernel_rfl) (by kernel_rfl) (by rfl) (by kernel_rfl) ?_
        iterate 7 (refine plan_read rfl (by rfl) (v := ?_) ?_ ?_; rotate_left 1; (intro W hW; have hW0 := below_step hBase hW; (try dsimp only at hW); go_simp <;> with_reducible rfl); simp only [List.getElem_toArray, List.getElem_cons_zero, List.getElem_cons_succ, Act.put, List.setIfInBounds_toArray, List.set_cons_zero, List.set_cons_succ])
        iterate 9 (refine plan_skip rfl (by rfl) ?_; simp only [List.getElem_toArray, List.getElem_cons_zero, List.getElem_cons_succ, Act.put, List.setIfInBounds_toArray, List.set_cons_zero, List.set_cons_succ])
        iterate 1 (refine plan_read rfl (by rfl) (v := ?_) ?_ ?_; rotate_left 1; (intro W hW; have hW0 := below_step hBase hW; (try dsimp only at hW); go_simp <;> with_reducible rfl); simp only [List.getElem_toArray, List.getElem_cons_zero, List.getElem_cons_succ, Act.put, List.setIfInBounds_toArray, List.set_cons_zero, List.set_cons_succ])
        refine plan_done ?_
        go_wp2_with fail
        go_meet
        case rel => exact ⟨rfl, hBase⟩
    · have HEY : Hid (ey = .nilIface ∨ ∃ g, ey = errV g) := by
        rcases HWY.out with ⟨_, _, h⟩ | ⟨_, _, g, h⟩
        · exact .inl h
        · exact .inr ⟨g, h⟩
      generalize strL X = SX at hs1
      generalize strL Y = SY at hs2
      clear HWX HWY hXe h8
      refine wp_region_plan (.step 0 false (.step 1 false (.step 2 false (.step 3 false (.step 4 false (.step 5 false (.step 6 false (.step 7 false (.step 8 false (.step 9 false (.step 10 false (.step 11 false (.step 12 false (.step 13 false (.step 14 true (.step 15 false (.step 16 false (.nil)))))))))))))))))) (by kernel_rfl) (by kernel_rfl) (by rfl) (by kernel_rfl) ?_
      iterate 3 (refine plan_read rfl (by rfl) (v := ?_) ?_ ?_; rotate_left 1; (intro W hW; have hW0 := below_step hBase hW; (try dsimp only at hW); go_simp <;> with_reducible rfl); simp only [List.getElem_toArray, List.getElem_cons_zero, List.getElem_cons_succ, Act.put, List.setIfInBounds_toArray, List.set_cons_zero, List.set_cons_succ])
      iterate 2 (refine plan_skip rfl (by rfl) ?_; simp only [List.getElem_toArray, List.getElem_cons_zero, List.getElem_cons_succ, Act.put, List.setIfInBounds_toArray, List.set_cons_zero, List.set_cons_succ])
      iterate 2 (refine plan_read rfl (by rfl) (v := ?_) ?_ ?_; rotate_left 1; (intro W hW; have hW0 := below_step hBase hW; (try dsimp only at hW); go_simp <;> with_reducible rfl); simp only [List.getElem_toArray, List.getElem_cons_zero, List.getElem_cons_succ, Act.put, List.setIfInBounds_toArray, List.set_cons_zero, List.set_cons_succ])
      iterate 9 (refine plan_skip rfl (by rfl) ?_; simp only [List.getElem_toArray, List.getElem_cons_zero, List.getElem_cons_succ, Act.put, List.setIfInBounds_toArray, List.set_cons_zero, List.set_cons_succ])
      iterate 1 (refine plan_read rfl (by rfl) (v := ?_) ?_ ?_; rotate_left 1; (intro W hW; have hW0 := below_step hBase hW; (try dsimp only at hW); go_simp <;> with_reducible rfl); simp only [List.getElem_toArray, List.getElem_cons_zero, List.getElem_cons_succ, Act.put, List.setIfInBounds_toArray, List.set_cons_zero, List.set_cons_succ])
      refine plan_done ?_
      go_wp2_with fail
      go_meet
      case rel => exact ⟨rfl, hBase⟩
  case rest =>
  obtain ⟨rfl, hb⟩ := hcut
  replace hrb := hrb.keep hb
  replace hg := hg.later hb
  have hB := below_step hT.2.2 hb
  clear hb hry hrt hrt' hrx hT HWX HWY HX HY
  go_upto_region 9 with fail
  rcases bars_cases b with ⟨t2, e2, c2, tg, D, hF, h8, ht2, he2, hc2', hbl, hbd, hD5⟩ | ⟨kf, sf, hF, hk1, hk2, hs1, hs2⟩
  · have HF := Lib.hid hF
    have HL := Lib.hid (And.intro ht2 (And.intro he2 hc2'))
    clear hF ht2 he2 hc2'
    go_wp2_with fail
    refine (readB_ok b t2 e2 c2 tg D m B d _ HM hrb hd (by omega) hg HF).mono ?_
    rintro e₁ w5 ⟨A5, m5, k5, rfl, HN5, hk5, hr5, hb⟩
    have em5 : m5 = 8 := HN5.out.symm.trans h8
    subst em5
    replace hrb := hrb.keep hb
    replace hg := hg.later hb
    replace hB := below_step hB hb
    clear hb HF h8
    have hRn : Row (w5.alloc (.cells #[.int .u64 0, .int .u64 0, .int .u64 0, .slice none 0 0] 25)) w5.heap.size 25 [.int .u64 0, .int .u64 0, .int .u64 0, .slice none 0 0] := Row.new w5 _ _ _ rfl
    go_upto_region 10 with (refine wpList_store_row rfl 25 (.tmp 11) (.tmp 67) rfl w5.heap.size rfl [.int .u64 (t2 : Int), .int .u64 (e2 : Int), .int .u64 (c2 : Int), .slice A5 8 k5] rfl _ _ hRn (by exact size_pay') rfl (one_four _ _ _ _ rfl rfl rfl rfl) ?_)
    have hRq := hRn.setRow [.int .u64 (t2 : Int), .int .u64 (e2 : Int), .int .u64 (c2 : Int), .slice A5 8 k5]
    have hb2 : Below w5.heap.size w5 ((w5.alloc (.cells #[.int .u64 0, .int .u64 0, .int .u64 0, .slice none 0 0] 25)).setRow w5.heap.size [.int .u64 (t2 : Int), .int .u64 (e2 : Int), .int .u64 (c2 : Int), .slice A5 8 k5].toArray) := below_setRow (below_new (Below.refl _ _) _) (Nat.le_refl _) _
    replace hrb := hrb.keep hb2
    replace hr5 := hr5.keep hb2
    replace hg := hg.later hb2
    replace hB := below_step hB hb2
    generalize (w5.alloc (.cells #[.int .u64 0, .int .u64 0, .int .u64 0, .slice none 0 0] 25)).setRow w5.heap.size [.int .u64 (t2 : Int), .int .u64 (e2 : Int), .int .u64 (c2 : Int), .slice A5 8 k5].toArray = w6 at hrb hr5 hg hRq hB ⊢
    clear hRn hb2
    generalize w5.heap.size = gq at hRq ⊢
    go_wp2_with (refine wpList_load_part rfl 25 (.tmp 11) rfl gq 0 rfl _ _ hRq [.int .u64 (t2 : Int), .int .u64 (e2 : Int), .int .u64 (c2 : Int), .slice A5 8 k5] (by rfl) _ Tryd.underlying25 rfl (by exact size_pay') ?_)
    refine (makeB_ok t2 e2 c2 tg A5 k5 _ HL.out.1 HL.out.2.1 HL.out.2.2 HN5 hr5 hk5 hg).mono ?_
    rintro e₁ w7 ⟨A7, n7, k7, rfl, HN7, hk7, hr7, hb⟩
    replace hrb := hrb.keep hb
    replace hB := below_step hB hb
    clear hb hr5 hRq hg
    generalize barL t2 e2 c2 tg = Z at hbl hbd HN7 hr7
    have hnm : n7 = m := by rw [← HN7.out, hbl, HM.out]
    have eM := HM.out
    subst eM
    subst hnm
    have HY : Hid (Z.length = b.length) := hbl
    have HD := Lib.hid hbd
    clear hbl hbd HN7 HM
    have hbne : ((b.length : Int) != (b.length : Int)) = false := by simp
    go_upto_region 17 with fail
    go_wp2_with fail
    go_loopw [18, 19] (fun p i wr' => CntR b Z w7 p i wr') (fun _ i _ => b.length - (intOf i).toNat)
    case atStart => exact ⟨0, Nat.zero_le _, rfl, rfl, Below.refl _ _⟩
    case round =>
      obtain ⟨q, hq, rfl, rfl, hbq⟩ := hrel
      by_cases hql : q < b.length
      · have k1 : (q : Int) < (b.length : Int) := by omega
        have k0 : (0 : Int) ≤ (q : Int) := by omega
        obtain ⟨gs, os, rfl, hgs, hcs'⟩ := hrb.at hql
        obtain ⟨gz, oz, rfl, hgz, hcz⟩ := hr7.at (k := q) (by rw [HY.out]; exact hql)
        have hc1 : wr.cell? ⟨gs, os + q, none⟩ = some (.int .u8 (b[q].toNat : Int)) := (hbq.cell (p := ⟨gs, os + q, none⟩) hgs).trans (hcs' q hql)
        have hqz : q < Z.length := by rw [HY.out]; exact hql
        have hc2' : wr.cell? ⟨gz, oz + q, none⟩ = some (.int .u8 (Z[q].toNat : Int)) := (hbq.cell (p := ⟨gz, oz + q, none⟩) hgz).trans (hcz q hqz)
        have HR := cnt_step b Z HY.out.symm (by omega) q hql w7 wr hbq
        generalize b[q] = x at hc1 HR
        generalize Z[q] = z at hc2' HR
        generalize difL (b.take (q + 1)) (Z.take (q + 1)) = P1 at HR
        generalize difL (b.take q) (Z.take q) = P0 at HR ⊢
        have HRR := Lib.hid HR
        clear HR hcs' hgs hgz hcz hbq hrb hr7
        by_cases exy : x = z
        · subst exy
          have hP := HRR.out.1 rfl
          subst hP
          have HR3 := Lib.hid HRR.out.2.2.2
          clear HRR
          go_upto_region 20 with fail
          go_quiet (fail)
          go_wp2_with fail
          go_roundw
          case rel => exact HR3.out _
          case measure => simp [intOf] <;> omega
        · have hne : ((x.toNat : Int) != (z.toNat : Int)) = true := bne_iff_ne.2 (fun e => exy (UInt8.toNat_inj.1 (by omega)))
          have hP := HRR.out.2.1 exy
          have hP1 := HRR.out.2.2.1
          have HR3 := Lib.hid HRR.out.2.2.2
          clear HRR
          go_upto_region 20 with fail
          go_quiet (fail)
          go_wp2_with fail
          go_roundw
          case rel => exact HR3.out _
          case measure => simp [intOf] <;> omega
      · have eq : q = b.length := by omega
        subst eq
        have k1 : ¬ (b.length : Int) < (b.length : Int) := by omega
        have hDD : difL (b.take b.length) (Z.take b.length) = D := by
          rw [List.take_length, ← HY.out, List.take_length]
          exact HD.out
        rw [hDD]
        replace hB := below_step hB hbq
        clear hDD HD hbq hr7 hrb HY
        have hd5 : decide ((D : Int) ≤ 5) = true := decide_eq_true (by omega)
        go_wp2_with fail
        go_ret
        exact ⟨by first | rfl | (rw [← hd5]; rfl), hB⟩
  · have HF := Lib.hid hF
    clear hF
    go_wp2_with fail
    refine (readB_no b kf sf m B d _ HM hrb hd (by omega) hg HF (by omega)).mono ?_
    rintro e₁ w5 ⟨A5, k5, g5, rfl, hFl, hb⟩
    replace hg := hg.later hb
    replace hB := below_step hB hb
    clear hb hrb HF
    have hRn : Row (w5.alloc (.cells #[.int .u64 0, .int .u64 0, .int .u64 0, .slice none 0 0] 25)) w5.heap.size 25 [.int .u64 0, .int .u64 0, .int .u64 0, .slice none 0 0] := Row.new w5 _ _ _ rfl
    go_upto_region 10 with (refine wpList_store_row rfl 25 (.tmp 11) (.tmp 67) rfl w5.heap.size rfl [.int .u64 0, .int .u64 0, .int .u64 0, .slice A5 0 k5] rfl _ _ hRn (by exact size_pay') rfl (one_four _ _ _ _ rfl rfl rfl rfl) ?_)
    have hRq := hRn.setRow [.int .u64 0, .int .u64 0, .int .u64 0, .slice A5 0 k5]
    have hb2 : Below w5.heap.size w5 ((w5.alloc (.cells #[.int .u64 0, .int .u64 0, .int .u64 0, .slice none 0 0] 25)).setRow w5.heap.size [.int .u64 0, .int .u64 0, .int .u64 0, .slice A5 0 k5].toArray) := below_setRow (below_new (Below.refl _ _) _) (Nat.le_refl _) _
    replace hFl := hFl.later hb2
    replace hg := hg.later hb2
    replace hB := below_step hB hb2
    generalize (w5.alloc (.cells #[.int .u64 0, .int .u64 0, .int .u64 0, .slice none 0 0] 25)).setRow w5.heap.size [.int .u64 0, .int .u64 0, .int .u64 0, .slice A5 0 k5].toArray = w6 at hFl hg hRq hB ⊢
    clear hRn hb2
    generalize w5.heap.size = gq at hRq ⊢
    go_upto_region 11 with fail
    go_wp2_with fail
    refine (told_flt g5 sf kf _ hg hFl).mono ?_
    rintro e₁ w7 ⟨rfl, hb⟩
    replace hRq := hRq.later hb
    replace hB := below_step hB hb
    clear hb hFl hg
    have cq0 : w7.cell? ⟨gq, 0, none⟩ = some (.int .u64 0) := hRq.cell rfl
    have cq1 : w7.cell? ⟨gq, 1, none⟩ = some (.int .u64 0) := hRq.cell rfl
    have cq2 : w7.cell? ⟨gq, 2, none⟩ = some (.int .u64 0) := hRq.cell rfl
    have cq3 : w7.cell? ⟨gq, 3, none⟩ = some (.slice A5 0 k5) := hRq.cell rfl
    go_wp2_with fail
    refine (refsame_pay 0 0 0 0 0 0 [] [] 0 0 A5 none k5 0 _ (Lib.hid rfl) (Lib.hid rfl) Rd.nil Rd.nil).mono ?_
    rintro e₁ w8 ⟨rfl, hb⟩
    rw [same_selfP]
    replace hB := below_step hB hb
    clear hb cq0 cq1 cq2 cq3
    go_wp2_with fail
    go_ret
    exact ⟨rfl, hB⟩
end Go.Proofs.YteppocjgodmpdaaDoor
/-
  The law BarsBack, at whatever comes in: it answers true, and writes nothing that was there. Condition: errors.errorType holds the handle of the type error (EtC).
-/
namespace Go.Proofs.YteppocjgodmpdaaDoor
set_option maxRecDepth 100000
open Go.RowKit Go.WideShapes
set_option linter.unusedSimpArgs false
set_option linter.unusedVariables false

theorem barsback_big (m : Nat) (B : Option Addr) (d : Nat) (t e c : Nat) (n : Nat) (A : Option Addr) (k : Nat) (t' e' c' : Nat) (n' : Nat) (A' : Option Addr) (k' : Nat) (w : World) (h : ¬ (m ≤ 255 ∧ n ≤ 300 ∧ n' ≤ 300)) (hm : m ≤ 9223372036854775807) (hn : n ≤ 9223372036854775807) (hn' : n' ≤ 9223372036854775807) (hg : EtC w) :
    Calls Tryd.prog 4 #[.slice B m d, aggP t e c A n k, aggP t' e' c' A' n' k'] w fun e₁ w' => e₁ = .returned (.bool true) ∧ Below w.heap.size w w' := by
  have hT := two_box w (.int .u64 (t : Int)) (.int .u64 (e : Int)) (.int .u64 (c : Int)) (.slice A n k) (.int .u64 (t' : Int)) (.int .u64 (e' : Int)) (.int .u64 (c' : Int)) (.slice A' n' k') _ rfl
  unfold aggP
  go_enter Tryd.func4, Tryd.ntmps4
  go_upto_region 1 with fail
  generalize (w.alloc (.cells #[.int .u64 (t : Int), .int .u64 (e : Int), .int .u64 (c : Int), .slice A n k] 25)).alloc (.cells #[.int .u64 (t' : Int), .int .u64 (e' : Int), .int .u64 (c' : Int), .slice A' n' k'] 25) = W0 at hT ⊢
  go_wp2_with fail
  refine (awake13_any _ (hg.later hT.2.2)).mono ?_
  rintro e₁ w1 ⟨rfl, hb⟩
  replace hT := hT.later hb
  clear hb hg
  have c3 : w1.cell? ⟨w.heap.size, 3, none⟩ = some (.slice A n k) := hT.1.cell rfl
  have d3 : w1.cell? ⟨w.heap.size + 1, 3, none⟩ = some (.slice A' n' k') := hT.2.1.cell rfl
  by_cases h0 : m ≤ 255
  · have g0 : decide ((255 : Int) < (m : Int)) = false := decide_eq_false (by omega)
    have n0 : ¬ 255 < m := by omega
    by_cases h1 : n ≤ 300
    · have g1 : decide ((300 : Int) < (n : Int)) = false := decide_eq_false (by omega)
      have n1 : ¬ 300 < n := by omega
      have g2 : decide ((300 : Int) < (n' : Int)) = true := decide_eq_true (by omega)
      have n2 : 300 < n' := by omega
      clear h
      go_wp2_with fail
      go_ret
      exact ⟨rfl, hT.2.2⟩
    · have g1 : decide ((300 : Int) < (n : Int)) = true := decide_eq_true (by omega)
      have n1 : 300 < n := by omega
      clear h
      go_wp2_with fail
      go_ret
      exact ⟨rfl, hT.2.2⟩
  · have g0 : decide ((255 : Int) < (m : Int)) = true := decide_eq_true (by omega)
    have n0 : 255 < m := by omega
    clear h
    go_wp2_with fail
    go_ret
    exact ⟨rfl, hT.2.2⟩
theorem barsback_any (v0 v1 v2 : Value) (W : World) {H : Type} {enc : TypeId × Value → H} {base : Nat} {d0 d1 d2 : DataW H} {p0 p1 p2 : List MemPlace}
    (hv0 : Value.okWide Tryd.prog W .any base 23 v0) (ht0 : DataW.Trod enc Tryd.prog W 0 (fun _ => true) true 23 v0 d0 p0) (hv1 : Value.okWide Tryd.prog W .any base 25 v1) (ht1 : DataW.Trod enc Tryd.prog W 0 (fun _ => true) true 25 v1 d1 p1) (hv2 : Value.okWide Tryd.prog W .any base 25 v2) (ht2 : DataW.Trod enc Tryd.prog W 0 (fun _ => true) true 25 v2 d2 p2) (hg : EtC W) :
    Calls Tryd.prog 4 #[v0, v1, v2] W fun e w' => e = .returned (.bool true) ∧ Below W.heap.size W w' := by
  obtain ⟨b, B, d, rfl, hd, hdm, hrb⟩ := open_bytes hv0 ht0
  obtain ⟨t, e, c, tag, A, k, rfl, ht, he, hc, hk, hkm, hr⟩ := open_payload hv1 ht1
  obtain ⟨t', e', c', tag', A', k', rfl, ht', he', hc', hk', hkm', hr'⟩ := open_payload hv2 ht2
  by_cases h : b.length ≤ 255 ∧ tag.length ≤ 300 ∧ tag'.length ≤ 300
  · exact barsback_core b _ B d t e c tag _ A k t' e' c' tag' _ A' k' W (Lib.hid rfl) hrb hd h.1 ht he hc (Lib.hid rfl) hr hk h.2.1 ht' he' hc' (Lib.hid rfl) hr' hk' h.2.2 hg
  · exact barsback_big _ B d t e c _ A k t' e' c' _ A' k' W h (by omega) (by omega) (by omega) hg
end Go.Proofs.YteppocjgodmpdaaDoor
