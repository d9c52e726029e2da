/-
  Parameters that are uses, or caches, or lists of uses, or numbers, opened. No conditions.
-/
import Derived.Test.YteljklkgdejhpaaGreatDoorQO14
import Derived.Test.YteljklkgdejhpaaGreatDoorRows
import Derived.Lib.LaidTab
import Derived.MakeChecks
set_option linter.unusedSimpArgs false
set_option linter.unusedVariables false
set_option maxRecDepth 100000
namespace Go.Proofs.YteljklkgdejhpaaGreatDoor
open Go.RowKit Go.Deep Go.WideShapes Go.ChangeShapes
theorem opens_use : Opens Tryz.prog 57 (RThree 0 1 1 1 2 1 RNum RNum RNum) := opens_three Tryz.underlying57 rfl rfl rfl (by kernel_rfl) (by kernel_rfl) (by kernel_rfl) (by kernel_rfl) (opens_num Tryz.underlying28) (opens_num Tryz.underlying28) (opens_num Tryz.underlying28)
theorem opens_uses : Opens Tryz.prog 33 (RSlice 3 (RThree 0 1 1 1 2 1 RNum RNum RNum)) := opens_slice Tryz.underlying33 (by kernel_rfl) (by omega) opens_use
theorem opens_cache : Opens Tryz.prog 35 (RThree 0 1 1 1 2 1 RInt RNum (RSlice 3 (RThree 0 1 1 1 2 1 RNum RNum RNum))) := opens_three Tryz.underlying35 rfl rfl rfl (by kernel_rfl) (by kernel_rfl) (by kernel_rfl) (by kernel_rfl) (opens_int Tryz.underlying3) (opens_num Tryz.underlying28) opens_uses
theorem use_of_r {w : World} {cs : List Value} {x : Us} (h : RThree 0 1 1 1 2 1 RNum RNum RNum w cs x) : cs = cellU x ∧ fitU1 x := by
  obtain ⟨hl, ⟨h0, g0⟩, ⟨h1, g1⟩, h2, g2⟩ := h
  refine ⟨?_, g0, g1, g2⟩
  match cs, hl with
  | [a, b, c], _ =>
    simp at h0 h1 h2
    rw [h0, h1, h2]
    rfl
theorem uses_of_r {w : World} {cs : List Value} {l : List Us} (h : RSlice 3 (RThree 0 1 1 1 2 1 RNum RNum RNum) w cs l) : ∃ (A : Option Addr) (cap : Nat), cs = [.slice A l.length cap] ∧ l.length ≤ cap ∧ cap ≤ 9223372036854775807 ∧ RdU w A l ∧ fitU l := by
  obtain ⟨A, cap, e, h1, h2, h3⟩ := h
  refine ⟨A, cap, e, h1, h2, fun hn => ?_, fun x hx => ?_⟩
  · obtain ⟨b, o, rfl, hc⟩ := h3 hn
    refine ⟨b, o, rfl, fun i hi => ?_⟩
    obtain ⟨ecs, h4, h5, h6⟩ := hc i hi
    obtain ⟨rfl, _⟩ := use_of_r h6
    exact ⟨h5 0 (by simp [cellU]), h5 1 (by simp [cellU]), h5 2 (by simp [cellU])⟩
  · obtain ⟨i, hi, rfl⟩ := List.getElem_of_mem hx
    obtain ⟨b, o, rfl, hc⟩ := h3 (by rintro rfl; simp at hi)
    obtain ⟨ecs, h4, h5, h6⟩ := hc i hi
    exact (use_of_r h6).2
section
variable {H : Type} {enc : TypeId × Value → H} {W : World} {base b1 : Nat} {spare : Nat → Bool} {held : Bool} {r : Reach} {v : Value} {d : DataW H} {p : List MemPlace}
end
end Go.Proofs.YteljklkgdejhpaaGreatDoor
namespace Go.Proofs.YteljklkgdejhpaaGreatDoor
open Go.RowKit Go.Deep Go.WideShapes Go.ChangeShapes
def RFour (a0 n0 a1 n1 a2 n2 a3 n3 : Nat) {α β γ δ : Type} (R : World → List Value → α → Prop) (S : World → List Value → β → Prop) (T : World → List Value → γ → Prop) (U : World → List Value → δ → Prop) : World → List Value → α × β × γ × δ → Prop := fun w cs x => cs.length = n0 + n1 + n2 + n3 ∧ R w ((cs.drop a0).take n0) x.1 ∧ S w ((cs.drop a1).take n1) x.2.1 ∧ T w ((cs.drop a2).take n2) x.2.2.1 ∧ U w ((cs.drop a3).take n3) x.2.2.2
theorem opens_four {P : Program} {t : TypeId} {α β γ δ : Type} {R : World → List Value → α → Prop} {S : World → List Value → β → Prop} {T : World → List Value → γ → Prop} {U : World → List Value → δ → Prop} {f0 f1 f2 f3 : Field} {a0 n0 a1 n1 a2 n2 a3 n3 : Nat} (ht : P.underlying t = some (.struct #[f0, f1, f2, f3])) (e0 : f0.offset = a0) (e1 : f1.offset = a1) (e2 : f2.offset = a2) (e3 : f3.offset = a3)
    (c0 : P.cellsOf f0.type = n0) (c1 : P.cellsOf f1.type = n1) (c2 : P.cellsOf f2.type = n2) (c3 : P.cellsOf f3.type = n3) (hn : P.cellsOf t = n0 + n1 + n2 + n3) (h0 : Opens P f0.type R) (h1 : Opens P f1.type S) (h2 : Opens P f2.type T) (h3 : Opens P f3.type U) : Opens P t (RFour a0 n0 a1 n1 a2 n2 a3 n3 R S T U) := fun enc w base spare held fuel cs x h => by
  obtain ⟨xs, n, _, _, hl, hxl, hx⟩ := DataW.trod_struct ht h
  have k0 := hx 0 f0 rfl
  have k1 := hx 1 f1 rfl
  have k2 := hx 2 f2 rfl
  have k3 := hx 3 f3 rfl
  simp only [List.size_toArray, List.length_cons, List.length_nil, Nat.zero_add, Nat.reduceAdd] at hxl
  rw [List.getElem?_eq_getElem (by omega), e0, c0] at k0
  rw [List.getElem?_eq_getElem (by omega), e1, c1] at k1
  rw [List.getElem?_eq_getElem (by omega), e2, c2] at k2
  rw [List.getElem?_eq_getElem (by omega), e3, c3] at k3
  obtain ⟨x0, r0⟩ := h0 enc w base spare held n _ _ k0
  obtain ⟨x1, r1⟩ := h1 enc w base spare held n _ _ k1
  obtain ⟨x2, r2⟩ := h2 enc w base spare held n _ _ k2
  obtain ⟨x3, r3⟩ := h3 enc w base spare held n _ _ k3
  exact ⟨(x0, x1, x2, x3), by omega, r0, r1, r2, r3⟩
end Go.Proofs.YteljklkgdejhpaaGreatDoor
namespace Go.Proofs.YteljklkgdejhpaaGreatDoor
open Go.RowKit Go.Deep Go.WideShapes Go.ChangeShapes
def RArrM (n m : Nat) {α : Type} (R : World → List Value → α → Prop) : World → List Value → List α → Prop := fun w cs l => l.length = n ∧ cs.length = n * m ∧ ∀ i (h : i < l.length), R w ((cs.drop (i * m)).take m) l[i]
theorem opens_arrM {P : Program} {t e : TypeId} {α : Type} {R : World → List Value → α → Prop} {n m : Nat} (ht : P.underlying t = some (.array n e)) (hc : P.cellsOf e = m) (hn : P.cellsOf t = n * m) (he : Opens P e R) : Opens P t (RArrM n m R) := fun enc w base spare held fuel cs x h => by
  obtain ⟨xs, q, _, _, hl, hxl, hx⟩ := DataW.trod_array ht h
  obtain ⟨l, hll, hp⟩ := choose_list n (fun i (y : α) => R w ((cs.drop (i * m)).take m) y) (fun i hi => by
    have := hx i hi
    rw [hc, List.getElem?_eq_getElem (by omega)] at this
    exact he enc w base spare held q _ _ this)
  exact ⟨l, hll, by omega, hp⟩
theorem opens_area : Opens Tryz.prog 24 (RTwo 0 1 1 1 (RSlice 1 RByte) RInt) := opens_two Tryz.underlying24 rfl rfl (by kernel_rfl) (by kernel_rfl) (by kernel_rfl) opens_bytes (opens_int Tryz.underlying3)
theorem opens_areas : Opens Tryz.prog 25 (RArrM 2 2 (RTwo 0 1 1 1 (RSlice 1 RByte) RInt)) := opens_arrM Tryz.underlying25 (by kernel_rfl) (by kernel_rfl) opens_area
theorem opens_bool : Opens Tryz.prog 4 RBool := fun enc w base spare held fuel cs x h => by
  obtain ⟨b, rfl, _⟩ := DataW.trod_bool Tryz.underlying4 h
  exact ⟨b, rfl⟩
theorem opens_disk : Opens Tryz.prog 27 (RFour 0 4 4 1 5 1 6 1 (RArrM 2 2 (RTwo 0 1 1 1 (RSlice 1 RByte) RInt)) RInt RInt RBool) := opens_four Tryz.underlying27 rfl rfl rfl rfl (by kernel_rfl) (by kernel_rfl) (by kernel_rfl) (by kernel_rfl) (by kernel_rfl) opens_areas (opens_int Tryz.underlying3) (opens_int Tryz.underlying3) opens_bool
section
variable {H : Type} {enc : TypeId × Value → H} {W : World} {base b1 : Nat} {spare : Nat → Bool} {held : Bool} {r : Reach} {v : Value} {d : DataW H} {p : List MemPlace}
end
end Go.Proofs.YteljklkgdejhpaaGreatDoor
namespace Go.Proofs.YteljklkgdejhpaaGreatDoor
open Go.RowKit Go.Deep Go.WideShapes Go.ChangeShapes
theorem opens_memory : Opens Tryz.prog 37 (RThree 0 1 1 3 4 3 RNum (RThree 0 1 1 1 2 1 RNum (RSlice 3 (RThree 0 1 1 1 2 1 RNum RNum (RSlice 1 RByte))) (RSlice 2 (RTwo 0 1 1 1 RNum RNum))) (RThree 0 1 1 1 2 1 RInt RNum (RSlice 3 (RThree 0 1 1 1 2 1 RNum RNum RNum)))) := opens_three Tryz.underlying37 rfl rfl rfl (by kernel_rfl) (by kernel_rfl) (by kernel_rfl) (by kernel_rfl) (opens_num Tryz.underlying28) opens_bundle opens_cache
theorem opens_shelf : Opens Tryz.prog 39 (RFour 0 7 7 1 8 1 9 7 (RFour 0 4 4 1 5 1 6 1 (RArrM 2 2 (RTwo 0 1 1 1 (RSlice 1 RByte) RInt)) RInt RInt RBool) RInt RNum (RThree 0 1 1 3 4 3 RNum (RThree 0 1 1 1 2 1 RNum (RSlice 3 (RThree 0 1 1 1 2 1 RNum RNum (RSlice 1 RByte))) (RSlice 2 (RTwo 0 1 1 1 RNum RNum))) (RThree 0 1 1 1 2 1 RInt RNum (RSlice 3 (RThree 0 1 1 1 2 1 RNum RNum RNum))))) := opens_four Tryz.underlying39 rfl rfl rfl rfl (by kernel_rfl) (by kernel_rfl) (by kernel_rfl) (by kernel_rfl) (by kernel_rfl) opens_disk (opens_int Tryz.underlying3) (opens_num Tryz.underlying28) opens_memory
theorem bundle_of_r {w : World} {cs : List Value} {q : Nat × List En × List Gn} (h : RThree 0 1 1 1 2 1 RNum (RSlice 3 (RThree 0 1 1 1 2 1 RNum RNum (RSlice 1 RByte))) (RSlice 2 (RTwo 0 1 1 1 RNum RNum)) w cs q) : ∃ (y : WB) (b : Bn), cs = (lB y b) ∧ PreB w y b := by
  obtain ⟨n, le, lg⟩ := q
  obtain ⟨hl, ⟨e0, g0⟩, h1, h2⟩ := h
  obtain ⟨es, eA, ec, e1, h3, h4, h5, h6, h7, h8⟩ := entries_of_r h1
  obtain ⟨gA, gc, e2, i6, i7, i8, i9⟩ := gones_of_r h2
  refine ⟨⟨es, eA, es.length, ec, gA, lg.length, gc⟩, (n, conE es, lg), ?_, ⟨rfl, rfl, rfl, h3, i6, h4, i7, h5, h6, i8, h7, ⟨g0, h8, i9⟩⟩⟩
  match cs, hl with
  | [x0, x1, x2], _ =>
    simp at e0 e1 e2
    rw [e0, e1, e2]
theorem cache_of_r {w : World} {cs : List Value} {q : Int × Nat × List Us} (h : RThree 0 1 1 1 2 1 RInt RNum (RSlice 3 (RThree 0 1 1 1 2 1 RNum RNum RNum)) w cs q) : ∃ (y : WC) (k : Ca), cs = (lC y k) ∧ PreC w y k := by
  obtain ⟨room, fl, l⟩ := q
  obtain ⟨hl, ⟨e0, g0⟩, ⟨e1, g1⟩, h2⟩ := h
  obtain ⟨A, c, e2, h3, h4, h5, h6⟩ := uses_of_r h2
  refine ⟨⟨A, l.length, c⟩, (room, fl, l), ?_, ⟨rfl, h3, h4, h5, ⟨g1, h6⟩⟩⟩
  match cs, hl with
  | [x0, x1, x2], _ =>
    simp at e0 e1 e2
    rw [e0, e1, e2]
theorem memory_of_r {w : World} {cs : List Value} {q : Nat × (Nat × List En × List Gn) × (Int × Nat × List Us)} (h : RThree 0 1 1 3 4 3 RNum (RThree 0 1 1 1 2 1 RNum (RSlice 3 (RThree 0 1 1 1 2 1 RNum RNum (RSlice 1 RByte))) (RSlice 2 (RTwo 0 1 1 1 RNum RNum))) (RThree 0 1 1 1 2 1 RInt RNum (RSlice 3 (RThree 0 1 1 1 2 1 RNum RNum RNum))) w cs q) : ∃ (y : WM) (m : MemK), cs = (lM y m) ∧ PreM w y m := by
  obtain ⟨n, qb, qc⟩ := q
  obtain ⟨hl, ⟨e0, g0⟩, h1, h2⟩ := h
  obtain ⟨yb, b, e1, p1⟩ := bundle_of_r h1
  obtain ⟨yc, k, e2, p2⟩ := cache_of_r h2
  refine ⟨⟨yb, yc⟩, ⟨n, b, k⟩, ?_, ⟨g0, p1, p2⟩⟩
  match cs, hl with
  | [x0, x1, x2, x3, x4, x5, x6], _ =>
    simp at e0 e1 e2
    obtain ⟨a1, a2, a3⟩ := e1
    obtain ⟨b1, b2, b3⟩ := e2
    rw [e0, a1, a2, a3, b1, b2, b3]
theorem disk_of_r {w : World} {cs : List Value} {q : List (List UInt8 × Int) × Int × Int × Bool} (h : RFour 0 4 4 1 5 1 6 1 (RArrM 2 2 (RTwo 0 1 1 1 (RSlice 1 RByte) RInt)) RInt RInt RBool w cs q) : ∃ (x : WD) (D : DK), cs = (lD x D) ∧ InD w x D ∧ D.fuse ≤ 9223372036854775807 ∧ D.keep ≤ 9223372036854775807 := by
  obtain ⟨ars, f, k, dn⟩ := q
  obtain ⟨hl, ⟨ha, hal, hai⟩, ⟨hf1, hf2⟩, ⟨hk1, hk2⟩, hd⟩ := h
  match ars, ha with
  | [⟨b0, s0⟩, ⟨b1, s1⟩], _ =>
    obtain ⟨_, h0, ⟨h1, _⟩⟩ := hai 0 (by simp)
    obtain ⟨_, h2, ⟨h3, _⟩⟩ := hai 1 (by simp)
    obtain ⟨A0, c0, e0, i0, _, i1⟩ := bytes_of_r h0
    obtain ⟨A1, c1, e1, j0, _, j1⟩ := bytes_of_r h2
    refine ⟨⟨A0, b0.length, c0, A1, b1.length, c1⟩, ⟨⟨b0, s0⟩, ⟨b1, s1⟩, f, k, dn⟩, ?_, ⟨rfl, i0, i1, rfl, j0, j1⟩, hf2.2, hk2.2⟩
    unfold RBool at hd
    match cs, hl with
    | [x0, x1, x2, x3, x4, x5, x6], _ =>
      simp at e0 e1 h1 h3 hf1 hk1 hd
      simp [e0, e1, h1, h3, hf1, hk1, hd]
section
variable {H : Type} {enc : TypeId × Value → H} {W : World} {base b1 : Nat} {spare : Nat → Bool} {held : Bool} {r : Reach} {v : Value} {d : DataW H} {p : List MemPlace}
theorem open_shelf (hv : Value.okWide Tryz.prog W r base 39 v) (ht : DataW.Trod enc Tryz.prog W b1 spare held 39 v d p) : ∃ (x : WS) (s : ShK), v = aggS x s ∧ PreS W x s ∧ s.d.fuse ≤ 9223372036854775807 ∧ s.d.keep ≤ 9223372036854775807 ∧ s.num < 18446744073709551616 ∧ -9223372036854775808 ≤ s.turn ∧ s.turn ≤ 9223372036854775807 := by
  obtain ⟨cs, rfl, _⟩ := okWide_struct Tryz.underlying39 hv
  obtain ⟨fuel, hf⟩ := ht
  obtain ⟨⟨qd, tu, nu, qm⟩, hl, h0, ⟨e1, g1, g2⟩, ⟨e2, g3⟩, h3⟩ := opens_shelf enc W _ _ _ _ _ _ hf
  obtain ⟨xd, D, e0, hD, hfu, hke⟩ := disk_of_r h0
  obtain ⟨xm, m, e3, hm⟩ := memory_of_r h3
  refine ⟨⟨xd, xm⟩, ⟨D, tu, nu, m⟩, ?_, ⟨hD, hm⟩, hfu, hke, g3, g1, g2⟩
  unfold aggS
  congr 1
  apply Array.toList_inj.1
  simp only [Value.cells] at hl e0 e1 e2 e3
  match hcs : cs.toList, hl with
  | [x0, x1, x2, x3, x4, x5, x6, x7, x8, x9, x10, x11, x12, x13, x14, x15], _ =>
    rw [hcs] at e0 e1 e2 e3
    simp at e0 e1 e2 e3
    obtain ⟨a0, a1, a2, a3, a4, a5, a6⟩ := e0
    obtain ⟨c0, c1, c2, c3, c4, c5, c6⟩ := e3
    rw [a0, a1, a2, a3, a4, a5, a6, e1, e2, c0, c1, c2, c3, c4, c5, c6]
end
end Go.Proofs.YteljklkgdejhpaaGreatDoor
namespace Go.Proofs.YteljklkgdejhpaaGreatDoor
open Go.RowKit
theorem ktab_of_laid {W : World} (h : laidMetH Tryz.prog [("wristband/sha.constants", Rows.laid_wristband_sha_constants)] W) : KTab W := by
  rw [MakeChecks.laidMetH_plain _ _ _ (by kernel_rfl)] at h
  have e : (Rows.laid_wristband_sha_constants : DataW Unit) = Lib.tabData .u32 (kL.map fun x => (x.toNat : Int)) := by kernel_rfl
  rw [e] at h
  have hT := Lib.tabIs_of_head (P := Tryz.prog) (g := 0) (t := 245) (e := 227) (n := 64) (by kernel_rfl) (by kernel_rfl) Tryz.underlying245 Tryz.underlying227 (by kernel_rfl) (by kernel_rfl) h
  intro i hi
  have h64 : kL.length = 64 := rfl
  have := hT.cell (g := 0) (by kernel_rfl) i (by simp [h64, hi])
  show _ = some (Value.int .u32 ((kL.getD i 0).toNat : Int))
  rw [this]
  simp [List.getD, h64, hi]
end Go.Proofs.YteljklkgdejhpaaGreatDoor
namespace Go.Proofs.YteljklkgdejhpaaGreatDoor
open Go.RowKit Go.WideShapes
theorem shelfopens_any (v0 v1 v2 : Value) (W : World) {H : Type} {enc : TypeId × Value → H} {base : Nat} {d0 d1 d2 : DataW H} {p0 p1 p2 : List MemPlace} (hv0 : Value.okWide Tryz.prog W .any base 39 v0) (ht0 : DataW.Trod enc Tryz.prog W 0 (fun _ => true) true 39 v0 d0 p0)
    (hv1 : Value.okWide Tryz.prog W .any base 22 v1) (ht1 : DataW.Trod enc Tryz.prog W 0 (fun _ => true) true 22 v1 d1 p1) (hv2 : Value.okWide Tryz.prog W .any base 22 v2) (ht2 : DataW.Trod enc Tryz.prog W 0 (fun _ => true) true 22 v2 d2 p2) (hk : KTab W) :
    Calls Tryz.prog 6 #[v0, v1, v2] W fun e w' => e = .returned (.bool true) ∧ Below W.heap.size W w' := by
  obtain ⟨x, s, rfl, hx, _, _, hn, _, _⟩ := open_shelf hv0 ht0
  obtain ⟨l, A, c, rfl, hc, hm, hr⟩ := open_bytes hv1 ht1
  obtain ⟨m, B, d, rfl, hc1, hm1, hr1⟩ := open_bytes hv2 ht2
  exact shelfopens_walk x s l m _ c _ d A B W hx hn (Lib.hid rfl) hr (Lib.hid rfl) hr1 (by omega) (by omega) (Lib.hid hk)
end Go.Proofs.YteljklkgdejhpaaGreatDoor
