/-
  What the program's call copied of layer 6 answers: an engine in new memory. No conditions but those typed.
-/
import Derived.Test.YtcejbofdgljemaaDoorR3
import Derived.Handy
import Derived.Lib.SmallJoins
import Derived.Lib.SlBytesConst
import Derived.Deep.DeepCutAuto
import Derived.ProofKit
import Derived.OpenShut
import Derived.Deep.Slices
import Derived.Deep.Strs
import Derived.Test.YtcejbofdgljemaaDoorRows
import Derived.Lib.LaidTab
import Derived.MakeChecks
namespace Go.Proofs.YtcejbofdgljemaaDoor
set_option maxRecDepth 100000
open Go.RowKit
set_option linter.unusedSimpArgs false
set_option linter.unusedVariables false

def nilV : Value := .slice none 0 0
theorem make_terms (n : Nat) (hn : n ≤ 1000000) (w : World) : (Instr.makeSlice 22 (.int .i64 (n : Int)) (.int .i64 (n : Int))).run Tryd.prog w = .ok (.slice (some ⟨w.heap.size, 0, none⟩) n n) (w.alloc (.cells (List.replicate (n * 2) nilV).toArray 47)) := by
  obtain ⟨i0, hi, hz0, hz1, hz2⟩ := info_parts info_term
  have e : madeCells (Value.agg #[.slice none 0 0, .slice none 0 0]).cells (n * 2) = (List.replicate (n * 2) nilV).toArray := by
    apply Array.toList_inj.1
    apply List.ext_getElem
    · simp [madeCells]
    · intro i h1 h2
      simp only [madeCells, Value.cells, nilV]
      rcases Nat.mod_two_eq_zero_or_one i with h | h <;> simp [h]
  have := run_makeSlice (P := Tryd.prog) (w := w) 22 47 i0 (.agg #[.slice none 0 0, .slice none 0 0]) Tryd.underlying22 hi hz0 .i64 .i64 (n : Int) (n : Int) (by omega) (Int.le_refl _) (by rw [hz1]; omega) (by rw [hz2]; omega) (by omega)
  rw [hz1, Int.toNat_natCast, e] at this
  exact this

theorem Rd.setCells_row {w : World} {A : Option Addr} {L : List UInt8} (h : Rd vB w A L) {g : Nat} {t : TypeId} {l : List Value} (hR : Row w g t l) (hl : ∀ v ∈ l, ∀ x, v ≠ vB x) (o : Nat) (vs : List Value) : Rd vB (w.setCells g o vs) A L := fun hn => by
  obtain ⟨b, q, rfl, hc⟩ := h hn
  refine ⟨b, q, rfl, fun i hi => ?_⟩
  have hne : b ≠ g := by
    rintro rfl
    have h1 := hc i hi
    rw [hR.cell? (q + i)] at h1
    exact hl _ (List.mem_of_getElem? h1) _ rfl
  exact (World.cell?_setCells_out g vs o w ⟨b, q + i, none⟩ (fun e => absurd e hne)).trans (hc i hi)
theorem okT.setCells_row {w : World} {ts : List TD} (h : okT w ts) {g : Nat} {t : TypeId} {l : List Value} (hR : Row w g t l) (hl : ∀ v ∈ l, ∀ x, v ≠ vB x) (o : Nat) (vs : List Value) : okT (w.setCells g o vs) ts := fun x hx => by
  obtain ⟨h1, h2, h3, h4⟩ := h x hx
  exact ⟨h1, h2, h3.setCells_row hR hl o vs, h4.setCells_row hR hl o vs⟩
/-- The cells of a row of terms, the first of which are laid. -/
def halfT (us : List TD) (p : Nat) : List Value := cellsT us ++ List.replicate ((p - us.length) * 2) nilV
theorem halfT_no_byte (us : List TD) (p : Nat) : ∀ v ∈ halfT us p, ∀ x, v ≠ vB x := fun v hv x => by
  rcases List.mem_append.1 hv with h | h
  · obtain ⟨y, _, hy⟩ := List.mem_flatMap.1 h
    simp [TD.cells, TD.at0, TD.at1] at hy
    rcases hy with rfl | rfl
    · exact slice_no_byte _ _ _ x
    · exact slice_no_byte _ _ _ x
  · rw [(List.mem_replicate.1 h).2]
    exact slice_no_byte _ _ _ x
theorem halfT_length (us : List TD) (p : Nat) (h : us.length ≤ p) : (halfT us p).length = p * 2 := by
  unfold halfT
  rw [List.length_append, cellsT_length, List.length_replicate]
  omega
theorem halfT_next (us : List TD) (y : TD) (p : Nat) (h : us.length < p) : (halfT us p).take (us.length * 2) ++ [y.at0, y.at1] ++ (halfT us p).drop (us.length * 2 + 2) = halfT (us ++ [y]) p := by
  unfold halfT
  rw [List.take_left' (cellsT_length us), ← List.drop_drop, List.drop_left' (cellsT_length us), List.drop_replicate, cellsT_snoc, List.length_append]
  congr 2
  simp
  omega
theorem RdT.row {w : World} {g : Nat} {t : TypeId} {us : List TD} (h : Row w g t (cellsT us)) : RdT w (some ⟨g, 0, none⟩) us := fun _ => by
  refine ⟨g, 0, rfl, fun i hi => ?_⟩
  obtain ⟨g0, g1⟩ := cellsT_get us i hi
  rw [Nat.zero_add]
  exact ⟨h.cell g0, h.cell g1⟩

def CopyRel (K : Int) (ts : List TD) (A : Option Addr) (p c : Nat) (w : World) (i : Value) (wr : World) : Prop :=
  ∃ (k : Nat) (us : List TD), k ≤ p ∧ i = .int .i64 (k : Int) ∧ Hid (us.length = k) ∧ Row wr w.heap.size 24 [.int .i64 K, .slice A p c] ∧ Row wr (w.heap.size + 1) 24 [.int .i64 0, .slice none 0 0] ∧
    Row wr (w.heap.size + 2) 47 (halfT us p) ∧ okT wr us ∧ conT us = (conT ts).take k ∧ Below w.heap.size w wr
def termS (g : Nat) (a b : Value) (W : World) : Prop := W.cell? ⟨g, 0, none⟩ = some a ∧ W.cell? ⟨g, 1, none⟩ = some b

set_option maxHeartbeats 2000000 in
theorem ecopied_any (K : Int) (ts : List TD) (p : Nat) (A : Option Addr) (c : Nat) (w : World) (HP : Hid (ts.length = p)) (HL : Hid (lenT (conT ts))) (ht : RdT w A ts) (hok : okT w ts) (hp : p ≤ 1000000) (hc : p ≤ c) :
    Calls Tryd.prog 20 #[.agg #[.int .i64 K, .slice A p c]] w fun e w' => ∃ (us : List TD) (A' : Option Addr) (c' : Nat), e = .returned (.agg #[.int .i64 K, .slice A' p c']) ∧ Hid (us.length = p) ∧ p ≤ c' ∧ RdT w' A' us ∧ okT w' us ∧ Hid (conT us = conT ts) ∧ Below w.heap.size w w' := by
  obtain ⟨hR0, hB0⟩ := box_rows w 24 (.int .i64 K) (.slice A p c)
  have hR0' := hR0.alloc (.cells #[.int .i64 0, .slice none 0 0] 24)
  have hB1 := below_new hB0 (.cells #[.int .i64 0, .slice none 0 0] 24)
  have hR1 : Row ((w.alloc (.cells #[.int .i64 K, .slice A p c] 24)).alloc (.cells #[.int .i64 0, .slice none 0 0] 24)) (w.heap.size + 1) 24 [.int .i64 0, .slice none 0 0] := Row.new_at _ _ (by simp) _ _ _ rfl
  have hsz : ((w.alloc (.cells #[.int .i64 K, .slice A p c] 24)).alloc (.cells #[.int .i64 0, .slice none 0 0] 24)).heap.size = w.heap.size + 2 := by simp
  have HOK := Lib.hid hok
  clear hok
  go_enter Tryd.func20, Tryd.ntmps20
  go_upto_region 1 with fail
  generalize (w.alloc (.cells #[.int .i64 K, .slice A p c] 24)).alloc (.cells #[.int .i64 0, .slice none 0 0] 24) = W2 at hR0' hB1 hR1 hsz ⊢
  have c1 : W2.cell? ⟨w.heap.size, 1, none⟩ = some (.slice A p c) := hR0'.cell rfl
  have hmk := make_terms p hp W2
  rw [hsz] at hmk
  have hR2 : Row (W2.alloc (.cells (List.replicate (p * 2) nilV).toArray 47)) (w.heap.size + 2) 47 (halfT [] p) := Row.new_at _ _ hsz.symm _ _ _ rfl
  generalize (List.replicate (p * 2) nilV) = X at hmk hR2
  have hR0'' := hR0'.alloc (.cells X.toArray 47)
  have hR1'' := hR1.alloc (.cells X.toArray 47)
  have hB2 := below_new hB1 (.cells X.toArray 47)
  go_upto_region 2 with fail
  clear hmk c1 hR0 hB0 hR0' hR1 hB1 hsz
  generalize W2.alloc (.cells X.toArray 47) = W3 at hR2 hR0'' hR1'' hB2 ⊢
  have c1 : W3.cell? ⟨w.heap.size, 1, none⟩ = some (.slice A p c) := hR0''.cell rfl
  go_wp2_with fail
  go_loopw [13] (fun i wr => CopyRel K ts A p c w i wr) (fun i _ => p - (intOf i).toNat)
  case atStart => exact ⟨0, [], Nat.zero_le _, rfl, Lib.hid rfl, hR0'', hR1'', hR2, (fun x hx => by cases hx), by simp [conT], hB2⟩
  case round =>
    clear hR0'' hR1'' hR2 hB2 c1
    obtain ⟨k, us, hk1, rfl, HU, hR0, hR1, hR2, hus, hcon, hB⟩ := hrel
    have eU := HU.out
    subst eU
    clear HU
    by_cases hlt : us.length < p
    · have hlt' : us.length < ts.length := by rw [HP.out]; exact hlt
      obtain ⟨blk, o, rfl, hblk, hcell⟩ := ht.at hlt'
      have hx := (HOK.out ts[us.length] (List.getElem_mem hlt')).keep hB
      have hlen := lenT.at HL.out (List.getElem_mem hlt')
      have hlc : us.length < (conT ts).length := by rw [conT_length]; exact hlt'
      have HTK : Hid ((conT ts).take (us.length + 1) = conT us ++ [ts[us.length].c]) := by unfold Hid; rw [List.take_succ_eq_append_getElem hlc, conT_get ts _ hlt', hcon]
      obtain ⟨h0, h1⟩ := hcell _ hlt'
      have hc0 : wr.rangeAt blk (o + us.length * 2) [ts[us.length].at0, ts[us.length].at1] := fun j u hu => by
        match j, hu with
        | 0, hu => injection hu with hu; subst hu; exact (hB.cell (p := ⟨blk, o + us.length * 2, none⟩) hblk).trans h0
        | 1, hu => injection hu with hu; subst hu; exact (hB.cell (p := ⟨blk, o + us.length * 2 + 1, none⟩) hblk).trans h1
      generalize ts[us.length] = x at hx hlen HTK hc0
      have i0 : (0 : Int) ≤ (us.length : Int) := by omega
      have i1 : (us.length : Int) < (p : Int) := by omega
      have hRx : Row (wr.alloc (.cells #[.slice none 0 0, .slice none 0 0] 47)) wr.heap.size 47 [.slice none 0 0, .slice none 0 0] := Row.new wr _ _ _ rfl
      have HB := Lib.hid hB
      have HUS := Lib.hid hus
      clear h0 h1 hcell hk1 hB hcon hus
      go_upto_region 5 with (first
        | (refine wpList_load_mid rfl 47 (.tmp 16) rfl blk (o + us.length * 2) rfl [x.at0, x.at1] _ hc0 Tryd.underlying47 rfl (by exact size_term) ?_)
        | (refine wpList_store_row rfl 47 (.tmp 5) (.tmp 17) rfl wr.heap.size rfl [x.at0, x.at1] rfl _ _ hRx (by exact size_term) rfl (one_two _ _ rfl rfl) ?_))
      have hRy := hRx.setRow [x.at0, x.at1]
      have hbn : Below wr.heap.size wr ((wr.alloc (.cells #[.slice none 0 0, .slice none 0 0] 47)).setRow wr.heap.size [x.at0, x.at1].toArray) := below_setRow (below_new (Below.refl _ _) _) (Nat.le_refl _) _
      have hgx := hR2.lt
      generalize (wr.alloc (.cells #[.slice none 0 0, .slice none 0 0] 47)).setRow wr.heap.size [x.at0, x.at1].toArray = w1 at hRy hbn ⊢
      replace hx := hx.keep hbn
      replace hR0 := hR0.later hbn
      replace hR1 := hR1.later hbn
      replace hR2 := hR2.later hbn
      replace HUS := Lib.hid (HUS.out.keep hbn)
      replace HB := Lib.hid (below_step HB.out hbn)
      clear hbn hRx hc0
      generalize hgd : wr.heap.size = g1 at hRy hgx ⊢
      clear hgd
      obtain ⟨kA, kc, kl, mA, mc, ml⟩ := x
      unfold TD.at0 TD.at1 at *
      dsimp only at hlen hRy ⊢
      obtain ⟨hk1, hm1, hxk, hxm⟩ := hx
      dsimp only at hxk hxm
      have hS : termS g1 (.slice kA kl.length kc) (.slice mA ml.length mc) w1.drew := ⟨hRy.drew.cell rfl, hRy.drew.cell rfl⟩
      replace hxk := hxk.keep ((Below.refl w1.heap.size w1).drew)
      replace hxm := hxm.keep ((Below.refl w1.heap.size w1).drew)
      replace hRy := hRy.drew
      replace hR0 := hR0.drew
      replace hR1 := hR1.drew
      replace hR2 := hR2.drew
      replace HUS := Lib.hid (HUS.out.keep ((Below.refl w1.heap.size w1).drew))
      replace HB := Lib.hid HB.out.drew
      refine wp_region_plan_of (termS g1 (.slice kA kl.length kc) (.slice mA ml.length mc)) (.step 0 false (.step 1 false (.step 2 false (.step 3 false (.step 5 false (.step 6 false (.step 4 true (.step 7 true (.step 8 false (.step 9 false (.step 10 true .nil))))))))))) hS (by kernel_rfl) (by kernel_rfl) (by rfl) (by kernel_rfl) ?_
      generalize w1.drew = w1 at *
      iterate 6 (refine plan_read rfl (by rfl) (v := ?_) ?_ ?_; rotate_left 1; (intro W hW; (try dsimp only at hW); obtain ⟨hW0, hW1⟩ := hW; go_simp <;> with_reducible rfl); simp only [List.getElem_toArray, List.getElem_cons_zero, List.getElem_cons_succ, Act.put, List.setIfInBounds_toArray, List.set_cons_zero, List.set_cons_succ])
      refine plan_make_of rfl (by rfl) (fun K hK => ?_)
      go_simp
      refine (clone_at kl.length kl kA kc _ (Lib.hid rfl) hxk (by omega)).mono ?_
      rintro e' w2 ⟨A2, c2, rfl, hc2, hr2, hN2, hb2⟩
      replace hRy := hRy.later hb2
      refine hK.out _ _ ⟨hRy.cell rfl, hRy.cell rfl⟩ ?_
      clear hK K
      refine plan_make_of rfl (by rfl) (fun K hK => ?_)
      go_simp
      refine (clone_at ml.length ml mA mc _ (Lib.hid rfl) (hxm.keep hb2) (by omega)).mono ?_
      rintro e' w3 ⟨A3, c3, rfl, hc3, hr3, hN3, hb3⟩
      replace hRy := hRy.later hb3
      refine hK.out _ _ ⟨hRy.cell rfl, hRy.cell rfl⟩ ?_
      clear hK K
      have hb23 := below_step hb2 hb3
      replace hR0 := hR0.later hb23
      replace hR1 := hR1.later hb23
      replace hR2 := hR2.later hb23
      replace HUS := Lib.hid (HUS.out.keep hb23)
      replace HB := Lib.hid (below_step HB.out hb23)
      replace hr2 := hr2.keep hb3
      clear hb2 hb3 hb23 hxk hxm hN2 hN3 hS
      iterate 2 (refine plan_read rfl (by rfl) (v := ?_) ?_ ?_; rotate_left 1; (intro W hW; (try dsimp only at hW); obtain ⟨hW0, hW1⟩ := hW; go_simp <;> with_reducible rfl); simp only [List.getElem_toArray, List.getElem_cons_zero, List.getElem_cons_succ, Act.put, List.setIfInBounds_toArray, List.set_cons_zero, List.set_cons_succ])
      have hth : w3.there (w.heap.size + 2) (us.length * 2) 2 := fun j hj => by
        have hl := halfT_length us p (by omega)
        exact ⟨by rw [hR2.cell? (us.length * 2 + j), List.getElem?_eq_getElem (by omega)]; rfl, hR2.frozen _⟩
      have hnb := halfT_no_byte us p
      have hnx := halfT_next us ⟨A2, c2, kl, A3, c3, ml⟩ p hlt
      have hR2' := hR2.setCells [.slice A2 kl.length c2, .slice A3 ml.length c3] (us.length * 2) (by rw [halfT_length us p (by omega)]; simp; omega)
      have hus' : okT (w3.setCells (w.heap.size + 2) (us.length * 2) [.slice A2 kl.length c2, .slice A3 ml.length c3]) (us ++ [⟨A2, c2, kl, A3, c3, ml⟩]) :=
        (HUS.out.setCells_row hR2 hnb _ _).app (fun z hz => by
          simp at hz
          subst hz
          exact ⟨hc2, hc3, hr2.setCells_row hR2 hnb _ _, hr3.setCells_row hR2 hnb _ _⟩)
      have HREL : Hid (CopyRel K ts (some ⟨blk, o, none⟩) p c w (.int .i64 ((us.length : Int) + 1)) (w3.setCells (w.heap.size + 2) (us.length * 2) [.slice A2 kl.length c2, .slice A3 ml.length c3])) :=
        ⟨us.length + 1, us ++ [⟨A2, c2, kl, A3, c3, ml⟩], by omega, by go_num, by unfold Hid; simp, hR0.setCells_other (by omega) _ _, hR1.setCells_other (by omega) _ _, by rw [← hnx]; exact hR2', hus', by rw [conT_snoc, HTK.out]; rfl, below_setCells (by omega) _ _ HB.out⟩
      refine plan_make_of rfl (by rfl) (fun K hK => ?_)
      refine wp_store_mid 47 (.tmp 27) (.tmp 26) rfl (w.heap.size + 2) (us.length * 2) #[.slice A2 kl.length c2, .slice A3 ml.length c3] rfl rfl hth (by exact size_term) (by exact all_oneCell_toArray (one_two _ _ rfl rfl)) ?_
      refine hK.out _ _ ⟨(hRy.setCells_other (by omega) _ _).cell rfl, (hRy.setCells_other (by omega) _ _).cell rfl⟩ ?_
      clear hK K hus' hR2' hnx hnb hth HUS hR0 hR1 hR2 hRy hr2 hr3
      refine plan_done ?_
      go_wp2_with fail
      go_roundw
      case rel => exact HREL.out
      case measure => simp [intOf]; omega
    · have hul : us.length = p := by omega
      have hcu : conT us = conT ts := by rw [hcon, hul, ← HP.out, ← conT_length, List.take_length]
      have hh : halfT us p = cellsT us := by unfold halfT; rw [hul]; simp
      rw [hh] at hR2
      have c0 : wr.cell? ⟨w.heap.size, 0, none⟩ = some (.int .i64 K) := hR0.cell rfl
      have hrt : RdT wr (some ⟨w.heap.size + 2, 0, none⟩) us := RdT.row hR2
      have i1 : ¬ (us.length : Int) < (p : Int) := by omega
      have HB := Lib.hid hB
      have HC := Lib.hid hcu
      have HUL := Lib.hid hul
      clear hcu hh hcon hul hB hk1
      go_wp2_with (refine wpList_store_row rfl 24 (.tmp 2) (.tmp 32) rfl (w.heap.size + 1) rfl [.int .i64 K, .slice (some ⟨w.heap.size + 2, 0, none⟩) p p] rfl _ _ hR1 (by exact size_engine) rfl (one_pair _ _ rfl rfl) ?_)
      refine bodyPost_ret (results_cell_row (p := 2) (ty := 24) (by rfl) _ _ (w.heap.size + 1) 24 _ (0, 0) _ (by rfl) (by exact hR1.setRow _) Tryd.underlying24 (by rfl) (by exact size_engine)) (by rfl) ?_
      have hnb := two_no_byte 0 (.slice none 0 0) (slice_no_byte none 0 0)
      exact ⟨us, _, p, rfl, HUL, Nat.le_refl _, hrt.setRow_row hR1 _, hus.setRow_row hR1 hnb _, HC, below_setRow HB.out (by omega) _⟩
end Go.Proofs.YtcejbofdgljemaaDoor
/-
  What the program's calls of layer 6 answer: New, Right, Tag, Fits. Condition: the package's table holds sixty-four words (for tags).
-/
namespace Go.Proofs.YtcejbofdgljemaaDoor
set_option maxRecDepth 100000
open Go.RowKit
set_option linter.unusedSimpArgs false
set_option linter.unusedVariables false

/-- Three results, the first of them a whole block. -/
theorem results_row_tmp2 {P : Program} {fn : Func} {p u v : Tmp} {ty : TypeId} (h : fn.results = #[.cell p ty, .tmp u, .tmp v]) (tmps : Array Value) (w : World) (g : Nat) (t : TypeId) (l : List Value) (d : TypeDesc) (hp : tmps.getD p undef = .pointer (some ⟨g, 0, none⟩)) (hg : Row w g t l)
    (hu : P.underlying ty = some d) (hd : d.isRow = true) (hi : (P.info? ty).map (·.size) = some l.length) : (results fn tmps).run P w = .ok (.tuple #[.agg l.toArray, tmps.getD u undef, tmps.getD v undef]) w := by
  have e : (results fn tmps).run P w = ((asAddr (tmps.getD p undef)).run P w).andThen fun a w₁ => ((loadVar ty a).run P w₁).andThen fun x w₂ => .ok (.tuple #[x, tmps.getD u undef, tmps.getD v undef]) w₂ := by
    simp only [results, h]
    simp [Sem.run_bind, Result.andThen]
  rw [e, hp]
  simp only [asAddr, Sem.run_pure, Result.andThen_ok, hg.loadVar (P := P) ty d hu hd hi]
theorem maker_one (A : Option Addr) (c : Nat) (w : World) :
    Calls Tryd.prog 27 #[.agg #[.int .i64 1, .slice A 0 c]] w fun e w' => e = .returned (.tuple #[.iface 97 (.agg #[.int .i64 1, .slice A 0 c]), .bool true]) ∧ Below w.heap.size w w' := by
  obtain ⟨hR, hB⟩ := box_rows w 24 (.int .i64 1) (.slice A 0 c)
  have c0 : (w.alloc (.cells #[.int .i64 1, .slice A 0 c] 24)).cell? ⟨w.heap.size, 0, none⟩ = some (.int .i64 1) := hR.cell rfl
  go_enter Tryd.func27, Tryd.ntmps27
  go_wp2_with (refine wpList_load_part rfl 24 (.tmp 1) rfl w.heap.size 0 rfl _ _ hR [.int .i64 1, .slice A 0 c] (by rfl) _ Tryd.underlying24 rfl (by exact size_engine) ?_)
  refine (cright_any 1 0 A c _ (by omega)).mono ?_
  rintro e w' ⟨rfl, hb⟩
  have hd : decide ((0 : Nat) = 0) = true := rfl
  rw [hd]
  go_wp2_with fail
  go_ret2
  exact ⟨rfl, below_step hB hb⟩
theorem maker_two (ts : List TD) (p : Nat) (A : Option Addr) (c : Nat) (w : World) (HP : Hid (ts.length = p)) (HL : Hid (lenT (conT ts))) (ht : RdT w A ts) (hok : okT w ts) (hp : p ≤ 1000000000) (hc : p ≤ c) (HR : Hid (rightT (conT ts) = true)) :
    Calls Tryd.prog 27 #[.agg #[.int .i64 2, .slice A p c]] w fun e w' => e = .returned (.tuple #[.iface 98 (.agg #[.int .i64 2, .slice A p c]), .bool true]) ∧ Below w.heap.size w w' := by
  obtain ⟨hR, hB⟩ := box_rows w 24 (.int .i64 2) (.slice A p c)
  have c0 : (w.alloc (.cells #[.int .i64 2, .slice A p c] 24)).cell? ⟨w.heap.size, 0, none⟩ = some (.int .i64 2) := hR.cell rfl
  go_enter Tryd.func27, Tryd.ntmps27
  go_wp2_with (refine wpList_load_part rfl 24 (.tmp 1) rfl w.heap.size 0 rfl _ _ hR [.int .i64 2, .slice A p c] (by rfl) _ Tryd.underlying24 rfl (by exact size_engine) ?_)
  refine (sright_any ts 2 p A c _ HP HL (ht.keep hB) (hok.keep hB) hp hc).mono ?_
  rintro e w' ⟨rfl, hb⟩
  rw [HR.out]
  go_wp2_with fail
  go_ret2
  exact ⟨rfl, below_step hB hb⟩
theorem maker_bad (K : Int) (ts : List TD) (p : Nat) (A : Option Addr) (c : Nat) (w : World) (HP : Hid (ts.length = p)) (HL : Hid (lenT (conT ts))) (ht : RdT w A ts) (hok : okT w ts) (hp : p ≤ 1000000000) (hc : p ≤ c) (HR : Hid (rightE K (conT ts) = false)) :
    Calls Tryd.prog 27 #[.agg #[.int .i64 K, .slice A p c]] w fun e w' => e = .returned (.tuple #[.nilIface, .bool false]) ∧ Below w.heap.size w w' := by
  obtain ⟨hR, hB⟩ := box_rows w 24 (.int .i64 K) (.slice A p c)
  have c0 : (w.alloc (.cells #[.int .i64 K, .slice A p c] 24)).cell? ⟨w.heap.size, 0, none⟩ = some (.int .i64 K) := hR.cell rfl
  by_cases h1 : K = 1
  · subst h1
    have h0 : p ≠ 0 := fun h => by
      have e : conT ts = [] := List.length_eq_zero_iff.1 (by rw [conT_length, HP.out, h])
      have := HR.out
      rw [e, rightE_one] at this
      cases this
    have hd : Hid (decide (p = 0) = false) := decide_eq_false h0
    go_enter Tryd.func27, Tryd.ntmps27
    go_wp2_with (refine wpList_load_part rfl 24 (.tmp 1) rfl w.heap.size 0 rfl _ _ hR [.int .i64 1, .slice A p c] (by rfl) _ Tryd.underlying24 rfl (by exact size_engine) ?_)
    refine (cright_any 1 p A c _ hp).mono ?_
    rintro e w' ⟨rfl, hb⟩
    rw [hd.out]
    go_wp2_with fail
    go_ret2
    exact ⟨rfl, below_step hB hb⟩
  · have k1 : (K == 1) = false := by simp [h1]
    by_cases h2 : K = 2
    · subst h2
      have HF : Hid (rightT (conT ts) = false) := by
        have := HR.out
        unfold rightE at this
        unfold Hid
        simpa using this
      go_enter Tryd.func27, Tryd.ntmps27
      go_wp2_with (refine wpList_load_part rfl 24 (.tmp 1) rfl w.heap.size 0 rfl _ _ hR [.int .i64 2, .slice A p c] (by rfl) _ Tryd.underlying24 rfl (by exact size_engine) ?_)
      refine (sright_any ts 2 p A c _ HP HL (ht.keep hB) (hok.keep hB) hp hc).mono ?_
      rintro e w' ⟨rfl, hb⟩
      rw [HF.out]
      go_wp2_with fail
      go_ret2
      exact ⟨rfl, below_step hB hb⟩
    · have k2 : (K == 2) = false := by simp [h2]
      go_enter Tryd.func27, Tryd.ntmps27
      go_wp2_with fail
      go_ret2
      exact ⟨rfl, hB⟩

theorem rightE_any (K : Int) (ts : List TD) (p : Nat) (A : Option Addr) (c : Nat) (w : World) (HP : Hid (ts.length = p)) (HL : Hid (lenT (conT ts))) (ht : RdT w A ts) (hok : okT w ts) (hp : p ≤ 1000000) (hc : p ≤ c) :
    Calls Tryd.prog 13 #[.agg #[.int .i64 K, .slice A p c]] w fun e w' => e = .returned (.bool (rightE K (conT ts))) ∧ Below w.heap.size w w' := by
  obtain ⟨hR, hB⟩ := box_rows w 24 (.int .i64 K) (.slice A p c)
  have hm : Calls Tryd.prog 27 #[.agg #[.int .i64 K, .slice A p c]] (w.alloc (.cells #[.int .i64 K, .slice A p c] 24)) fun e w' => ∃ v, e = .returned (.tuple #[v, .bool (rightE K (conT ts))]) ∧ Below (w.alloc (.cells #[.int .i64 K, .slice A p c] 24)).heap.size (w.alloc (.cells #[.int .i64 K, .slice A p c] 24)) w' := by
    by_cases hr : rightE K (conT ts) = true
    · rw [hr]
      rcases rightE_cases hr with ⟨rfl, h0⟩ | ⟨rfl, hT⟩
      · have e0 : p = 0 := by rw [← HP.out, ← conT_length, h0]; rfl
        subst e0
        exact (maker_one A c _).mono fun e w' ⟨he, hb⟩ => ⟨_, he, hb⟩
      · exact (maker_two ts p A c _ HP HL (ht.keep hB) (hok.keep hB) (by omega) hc (Lib.hid hT)).mono fun e w' ⟨he, hb⟩ => ⟨_, he, hb⟩
    · rw [Bool.eq_false_iff.2 hr]
      exact (maker_bad K ts p A c _ HP HL (ht.keep hB) (hok.keep hB) (by omega) hc (Lib.hid (Bool.eq_false_iff.2 hr))).mono fun e w' ⟨he, hb⟩ => ⟨_, he, hb⟩
  generalize rightE K (conT ts) = r at hm ⊢
  go_enter Tryd.func13, Tryd.ntmps13
  go_wp2_with (refine wpList_load_part rfl 24 (.tmp 1) rfl w.heap.size 0 rfl _ _ hR [.int .i64 K, .slice A p c] (by rfl) _ Tryd.underlying24 rfl (by exact size_engine) ?_)
  refine hm.mono ?_
  rintro e w' ⟨v, rfl, hb⟩
  clear hm
  go_wp2_with fail
  go_ret
  exact ⟨rfl, below_step hB hb⟩
/-- What a tag's call hands back, by an engine that is right, and by another one. -/
def TagGood [Inhabited Tab] (K : Int) (ts : List TD) (x : Tm) (w : World) (e : Ending) (w' : World) : Prop :=
  ∃ (us : List TD) (p : Nat) (A : Option Addr) (c : Nat) (tA : Option Addr) (tc : Nat), e = .returned (.tuple #[.agg #[.int .i64 K, .slice A p c], .slice tA 8 tc, .int .i64 0]) ∧ Hid (us.length = p) ∧ p ≤ c ∧ 8 ≤ tc ∧ RdT w' A us ∧ okT w' us ∧ Hid (conT us = termsE K (conT ts) x) ∧ Rd vB w' tA (bytesE K (conT ts) x) ∧ Below w.heap.size w w'
def TagBad (K : Int) (ts : List TD) (w : World) (e : Ending) (w' : World) : Prop :=
  ∃ (us : List TD) (p : Nat) (A : Option Addr) (c : Nat) (tA : Option Addr) (tc : Nat), e = .returned (.tuple #[.agg #[.int .i64 K, .slice A p c], .slice tA 0 tc, .int .i64 1]) ∧ Hid (us.length = p) ∧ p ≤ c ∧ RdT w' A us ∧ okT w' us ∧ Hid (conT us = conT ts) ∧ Below w.heap.size w w'
theorem tagE_good [Inhabited Tab] (K : Int) (ts : List TD) (key msg : List UInt8) (p n m : Nat) (A B C : Option Addr) (c d e : Nat) (w : World) (HP : Hid (ts.length = p)) (HL : Hid (lenT (conT ts))) (HN : Hid (key.length = n)) (HM : Hid (msg.length = m)) (ht : RdT w A ts) (hok : okT w ts) (hk : Rd vB w B key) (hm : Rd vB w C msg) (hp : p ≤ 1000000) (hc : p ≤ c) (hn : n ≤ 1000000) (hmm : m ≤ 1000000) (hnd : n ≤ d) (hme : m ≤ e) (HR : Hid (rightE K (conT ts) = true)) (HK : Hid (KTab w)) :
    Calls Tryd.prog 17 #[.agg #[.int .i64 K, .slice A p c], .slice B n d, .slice C m e] w (TagGood K ts (key, msg) w) := by
  obtain ⟨hR, hB0⟩ := box_rows w 24 (.int .i64 K) (.slice A p c)
  have hR1 := hR.alloc (.cells #[.int .i64 0, .slice none 0 0] 24)
  have hB := below_new hB0 (.cells #[.int .i64 0, .slice none 0 0] 24)
  have hR2 : Row ((w.alloc (.cells #[.int .i64 K, .slice A p c] 24)).alloc (.cells #[.int .i64 0, .slice none 0 0] 24)) (w.heap.size + 1) 24 [.int .i64 0, .slice none 0 0] := Row.new_at _ _ (by simp) _ _ _ rfl
  replace ht := ht.keep hB
  replace hok := hok.keep hB
  replace hk := hk.keep hB
  replace hm := hm.keep hB
  replace HK := Lib.hid (HK.out.keep hB)
  clear hR hB0
  go_enter Tryd.func17, Tryd.ntmps17
  go_upto_region 1 with fail
  generalize (w.alloc (.cells #[.int .i64 K, .slice A p c] 24)).alloc (.cells #[.int .i64 0, .slice none 0 0] 24) = W2 at hR1 hR2 hB ht hok hk hm HK ⊢
  have hnb := two_no_byte 0 (.slice none 0 0) (slice_no_byte none 0 0)
  rcases rightE_cases HR.out with ⟨rfl, h0⟩ | ⟨rfl, hT⟩
  · have e0 : p = 0 := by rw [← HP.out, ← conT_length, h0]; rfl
    have e1 : ts = [] := List.length_eq_zero_iff.1 (by rw [HP.out, e0])
    subst e0 e1
    clear h0
    go_upto_region 2 with (first | (refine wpList_load_part rfl 24 (.tmp 3) rfl w.heap.size 0 rfl _ _ hR1 [.int .i64 1, .slice A 0 c] (by rfl) _ Tryd.underlying24 rfl (by exact size_engine) ?_) | (go_at_call 27; refine (maker_one A c _).mono ?_; rintro e' w3 ⟨rfl, hb⟩))
    replace hR2 := hR2.later hb
    replace hk := hk.keep hb
    replace hm := hm.keep hb
    replace HK := Lib.hid (HK.out.keep hb)
    replace hB := below_step hB hb
    clear hb hR1 ht hok
    go_wp2_with fail
    refine (ctag_any 1 key msg 0 n m A B C c d e _ HN HM hk hm hn hmm hnd HK).mono ?_
    rintro e' w4 ⟨tA, tc, rfl, htc, hr, hb⟩
    replace hR2 := hR2.later hb
    have HB := Lib.hid (below_step hB hb)
    clear hb hB hk hm
    have hR3 : Row (w4.alloc (.cells #[.int .i64 0, .slice none 0 0] 24)) w4.heap.size 24 [.int .i64 0, .slice none 0 0] := Row.new w4 _ _ _ rfl
    go_upto_region 5 with (refine wpList_store_row rfl 24 (.tmp 11) (.tmp 27) rfl w4.heap.size rfl [.int .i64 1, .slice none 0 0] rfl _ _ hR3 (by exact size_engine) rfl (one_pair _ _ rfl rfl) ?_)
    have hR4 := hR3.setRow [.int .i64 1, .slice none 0 0]
    have hbn : Below w4.heap.size w4 ((w4.alloc (.cells #[.int .i64 0, .slice none 0 0] 24)).setRow w4.heap.size [.int .i64 1, .slice none 0 0].toArray) := below_setRow (below_new (Below.refl _ _) _) (Nat.le_refl _) _
    generalize (w4.alloc (.cells #[.int .i64 0, .slice none 0 0] 24)).setRow w4.heap.size [.int .i64 1, .slice none 0 0].toArray = w5 at hR4 hbn ⊢
    replace hR2 := hR2.later hbn
    replace hr := hr.keep hbn
    replace HB := Lib.hid (below_step HB.out hbn)
    clear hR3 hbn
    generalize w4.heap.size = g at hR4 ⊢
    go_wp2_with (first | (refine wpList_load_part rfl 24 (.tmp 11) rfl g 0 rfl _ _ hR4 [.int .i64 1, .slice none 0 0] (by rfl) _ Tryd.underlying24 rfl (by exact size_engine) ?_) | (refine wpList_store_row rfl 24 (.tmp 6) (.tmp 29) rfl (w.heap.size + 1) rfl [.int .i64 1, .slice none 0 0] rfl _ _ hR2 (by exact size_engine) rfl (one_pair _ _ rfl rfl) ?_))
    refine bodyPost_ret (results_row_tmp2 (p := 6) (u := 7) (v := 8) (ty := 24) (by rfl) _ _ (w.heap.size + 1) 24 _ _ (by rfl) (by exact hR2.setRow _) Tryd.underlying24 (by rfl) (by exact size_engine)) (by rfl) ?_
    exact ⟨[], 0, none, 0, tA, tc, rfl, Lib.hid rfl, Nat.le_refl _, htc, RdT.nil, (fun x hx => by cases hx), rfl, hr.setRow_row hR2 hnb _, below_setRow HB.out (by omega) _⟩
  · go_upto_region 2 with (first | (refine wpList_load_part rfl 24 (.tmp 3) rfl w.heap.size 0 rfl _ _ hR1 [.int .i64 2, .slice A p c] (by rfl) _ Tryd.underlying24 rfl (by exact size_engine) ?_) | (go_at_call 27; refine (maker_two ts p A c _ HP HL ht hok (by omega) hc (Lib.hid hT)).mono ?_; rintro e' w3 ⟨rfl, hb⟩))
    replace hR2 := hR2.later hb
    replace ht := ht.keep hb
    replace hok := hok.keep hb
    replace hk := hk.keep hb
    replace hm := hm.keep hb
    replace hB := below_step hB hb
    clear hb hR1
    go_wp2_with fail
    refine (stag_any ts key msg p n m A B C c d e _ HP HN HM HL ht hok hk hm hp hc hn hmm).mono ?_
    rintro e' w4 ⟨us, q, A', c', tA, tc, rfl, HQ, hqc, htc, htu, hoku, HC, hr, hb⟩
    replace hR2 := hR2.later hb
    have HB := Lib.hid (below_step hB hb)
    clear hb hB hk hm ht hok
    have hR3 : Row (w4.alloc (.cells #[.int .i64 0, .slice none 0 0] 24)) w4.heap.size 24 [.int .i64 0, .slice none 0 0] := Row.new w4 _ _ _ rfl
    go_upto_region 5 with (refine wpList_store_row rfl 24 (.tmp 11) (.tmp 27) rfl w4.heap.size rfl [.int .i64 2, .slice A' q c'] rfl _ _ hR3 (by exact size_engine) rfl (one_pair _ _ rfl rfl) ?_)
    have hR4 := hR3.setRow [.int .i64 2, .slice A' q c']
    have hbn : Below w4.heap.size w4 ((w4.alloc (.cells #[.int .i64 0, .slice none 0 0] 24)).setRow w4.heap.size [.int .i64 2, .slice A' q c'].toArray) := below_setRow (below_new (Below.refl _ _) _) (Nat.le_refl _) _
    generalize (w4.alloc (.cells #[.int .i64 0, .slice none 0 0] 24)).setRow w4.heap.size [.int .i64 2, .slice A' q c'].toArray = w5 at hR4 hbn ⊢
    replace hR2 := hR2.later hbn
    replace hr := hr.keep hbn
    replace htu := htu.keep hbn
    replace hoku := hoku.keep hbn
    replace HB := Lib.hid (below_step HB.out hbn)
    clear hR3 hbn
    generalize w4.heap.size = g at hR4 ⊢
    go_wp2_with (first | (refine wpList_load_part rfl 24 (.tmp 11) rfl g 0 rfl _ _ hR4 [.int .i64 2, .slice A' q c'] (by rfl) _ Tryd.underlying24 rfl (by exact size_engine) ?_) | (refine wpList_store_row rfl 24 (.tmp 6) (.tmp 29) rfl (w.heap.size + 1) rfl [.int .i64 2, .slice A' q c'] rfl _ _ hR2 (by exact size_engine) rfl (one_pair _ _ rfl rfl) ?_))
    refine bodyPost_ret (results_row_tmp2 (p := 6) (u := 7) (v := 8) (ty := 24) (by rfl) _ _ (w.heap.size + 1) 24 _ _ (by rfl) (by exact hR2.setRow _) Tryd.underlying24 (by rfl) (by exact size_engine)) (by rfl) ?_
    exact ⟨us, q, A', c', tA, tc, rfl, HQ, hqc, htc, htu.setRow_row hR2 _, hoku.setRow_row hR2 hnb _, HC, hr.setRow_row hR2 hnb _, below_setRow HB.out (by omega) _⟩
theorem tagE_bad [Inhabited Tab] (K : Int) (ts : List TD) (key msg : List UInt8) (p n m : Nat) (A B C : Option Addr) (c d e : Nat) (w : World) (HP : Hid (ts.length = p)) (HL : Hid (lenT (conT ts))) (ht : RdT w A ts) (hok : okT w ts) (hp : p ≤ 1000000) (hc : p ≤ c) (HR : Hid (rightE K (conT ts) = false)) (HK : Hid (KTab w)) :
    Calls Tryd.prog 17 #[.agg #[.int .i64 K, .slice A p c], .slice B n d, .slice C m e] w (TagBad K ts w) := by
  obtain ⟨hR, hB0⟩ := box_rows w 24 (.int .i64 K) (.slice A p c)
  have hR1 := hR.alloc (.cells #[.int .i64 0, .slice none 0 0] 24)
  have hB := below_new hB0 (.cells #[.int .i64 0, .slice none 0 0] 24)
  have hR2 : Row ((w.alloc (.cells #[.int .i64 K, .slice A p c] 24)).alloc (.cells #[.int .i64 0, .slice none 0 0] 24)) (w.heap.size + 1) 24 [.int .i64 0, .slice none 0 0] := Row.new_at _ _ (by simp) _ _ _ rfl
  replace ht := ht.keep hB
  replace hok := hok.keep hB
  clear hR hB0
  go_enter Tryd.func17, Tryd.ntmps17
  go_upto_region 1 with fail
  generalize (w.alloc (.cells #[.int .i64 K, .slice A p c] 24)).alloc (.cells #[.int .i64 0, .slice none 0 0] 24) = W2 at hR1 hR2 hB ht hok ⊢
  go_wp2_with (refine wpList_load_part rfl 24 (.tmp 3) rfl w.heap.size 0 rfl _ _ hR1 [.int .i64 K, .slice A p c] (by rfl) _ Tryd.underlying24 rfl (by exact size_engine) ?_)
  refine (maker_bad K ts p A c _ HP HL ht hok (by omega) hc HR).mono ?_
  rintro e' w3 ⟨rfl, hb⟩
  replace hR1 := hR1.later hb
  replace hR2 := hR2.later hb
  replace ht := ht.keep hb
  replace hok := hok.keep hb
  replace hB := below_step hB hb
  clear hb
  go_wp2_with (refine wpList_load_part rfl 24 (.tmp 3) rfl w.heap.size 0 rfl _ _ hR1 [.int .i64 K, .slice A p c] (by rfl) _ Tryd.underlying24 rfl (by exact size_engine) ?_)
  refine (ecopied_any K ts p A c _ HP HL ht hok hp hc).mono ?_
  rintro e' w4 ⟨us, A', c', rfl, HU, hpc, hrt, hus, HC, hb⟩
  replace hR2 := hR2.later hb
  have HB := Lib.hid (below_step hB hb)
  clear hb hB hR1 ht hok
  go_wp2_with (refine wpList_store_row rfl 24 (.tmp 6) (.tmp 21) rfl (w.heap.size + 1) rfl [.int .i64 K, .slice A' p c'] rfl _ _ hR2 (by exact size_engine) rfl (one_pair _ _ rfl rfl) ?_)
  refine bodyPost_ret (results_row_tmp2 (p := 6) (u := 7) (v := 8) (ty := 24) (by rfl) _ _ (w.heap.size + 1) 24 _ _ (by rfl) (by exact hR2.setRow _) Tryd.underlying24 (by rfl) (by exact size_engine)) (by rfl) ?_
  have hnb := two_no_byte 0 (.slice none 0 0) (slice_no_byte none 0 0)
  exact ⟨us, p, A', c', none, 0, rfl, HU, hpc, hrt.setRow_row hR2 _, hus.setRow_row hR2 hnb _, HC, below_setRow HB.out (by omega) _⟩
theorem fitsE_any [Inhabited Tab] (K : Int) (ts : List TD) (key msg tag : List UInt8) (p n m q : Nat) (A B C D : Option Addr) (c d e f : Nat) (w : World) (HP : Hid (ts.length = p)) (HL : Hid (lenT (conT ts))) (HN : Hid (key.length = n)) (HM : Hid (msg.length = m)) (HQ : Hid (tag.length = q)) (ht : RdT w A ts) (hok : okT w ts) (hk : Rd vB w B key) (hm : Rd vB w C msg) (hg : Rd vB w D tag) (hp : p ≤ 1000000) (hc : p ≤ c) (hn : n ≤ 1000000) (hmm : m ≤ 1000000) (hq : q ≤ 1000000) (hnd : n ≤ d) (hme : m ≤ e) (hqf : q ≤ f) (HK : Hid (KTab w)) :
    Calls Tryd.prog 18 #[.agg #[.int .i64 K, .slice A p c], .slice B n d, .slice C m e, .slice D q f] w fun e w' => e = .returned (.bool (fitsE K (conT ts) (key, msg) tag)) ∧ Below w.heap.size w w' := by
  obtain ⟨hR, hB⟩ := box_rows w 24 (.int .i64 K) (.slice A p c)
  replace ht := ht.keep hB
  replace hok := hok.keep hB
  replace hk := hk.keep hB
  replace hm := hm.keep hB
  replace hg := hg.keep hB
  replace HK := Lib.hid (HK.out.keep hB)
  obtain ⟨r, hr⟩ : ∃ r, rightE K (conT ts) = r := ⟨_, rfl⟩
  cases r with
  | false =>
    have HF : Hid (fitsE K (conT ts) (key, msg) tag = false) := fitsE_wrong _ _ hr
    go_enter Tryd.func18, Tryd.ntmps18
    go_wp2_with (refine wpList_load_part rfl 24 (.tmp 4) rfl w.heap.size 0 rfl _ _ hR [.int .i64 K, .slice A p c] (by rfl) _ Tryd.underlying24 rfl (by exact size_engine) ?_)
    refine (maker_bad K ts p A c _ HP HL ht hok (by omega) hc (Lib.hid hr)).mono ?_
    rintro e' w3 ⟨rfl, hb⟩
    go_wp2_with fail
    go_ret
    exact ⟨by rw [HF.out]; rfl, below_step hB hb⟩
  | true =>
    rcases rightE_cases hr with ⟨rfl, h0⟩ | ⟨rfl, hT⟩
    · have e0 : p = 0 := by rw [← HP.out, ← conT_length, h0]; rfl
      have HF : Hid (fitsE 1 (conT ts) (key, msg) tag = decide ((macL key msg).take 8 = tag)) := by
        unfold Hid fitsE bytesE
        rw [hr]
        simp
      subst e0
      go_enter Tryd.func18, Tryd.ntmps18
      go_upto_region 2 with (first | (refine wpList_load_part rfl 24 (.tmp 4) rfl w.heap.size 0 rfl _ _ hR [.int .i64 1, .slice A 0 c] (by rfl) _ Tryd.underlying24 rfl (by exact size_engine) ?_) | (go_at_call 27; refine (maker_one A c _).mono ?_; rintro e' w3 ⟨rfl, hb⟩))
      replace hk := hk.keep hb
      replace hm := hm.keep hb
      replace hg := hg.keep hb
      replace HK := Lib.hid (HK.out.keep hb)
      replace hB := below_step hB hb
      clear hb hr ht hok h0
      go_wp2_with fail
      refine (cfits_any 1 key msg tag 0 n m q A B C D c d e f _ HN HM HQ hk hm hg hn hmm hq hnd HK).mono ?_
      rintro e' w4 ⟨rfl, hb⟩
      rw [← HF.out]
      go_wp2_with fail
      go_ret
      exact ⟨rfl, below_step hB hb⟩
    · have HF : Hid (fitsE 2 (conT ts) (key, msg) tag = decide ((key, msg) ∈ conT ts ∧ tagT (conT ts) (key, msg) = tag)) := by
        unfold Hid fitsE bytesE
        rw [hr]
        simp [Bool.decide_and]
      go_enter Tryd.func18, Tryd.ntmps18
      go_upto_region 2 with (first | (refine wpList_load_part rfl 24 (.tmp 4) rfl w.heap.size 0 rfl _ _ hR [.int .i64 2, .slice A p c] (by rfl) _ Tryd.underlying24 rfl (by exact size_engine) ?_) | (go_at_call 27; refine (maker_two ts p A c _ HP HL ht hok (by omega) hc (Lib.hid hT)).mono ?_; rintro e' w3 ⟨rfl, hb⟩))
      replace ht := ht.keep hb
      replace hok := hok.keep hb
      replace hk := hk.keep hb
      replace hm := hm.keep hb
      replace hg := hg.keep hb
      replace hB := below_step hB hb
      clear hb hr
      have HT := Lib.hid hT
      clear hT
      go_wp2_with fail
      refine (sfits_any 2 ts key msg tag p n m q A B C D c d e f _ HP HN HM HQ HL ht hok hk hm hg hp hc hn hmm hq HT).mono ?_
      rintro e' w4 ⟨rfl, hb⟩
      rw [← HF.out]
      go_wp2_with fail
      go_ret
      exact ⟨rfl, below_step hB hb⟩

theorem newE_one (kind : Int) (w : World) (HR : Hid (rightE kind [] = true)) :
    Calls Tryd.prog 29 #[.int .i64 kind] w fun e w' => ∃ A c, e = .returned (.tuple #[.agg #[.int .i64 kind, .slice A 0 c], .int .i64 0]) ∧ Below w.heap.size w w' := by
  obtain ⟨hR0, hB0⟩ := box_rows w 24 (.int .i64 0) (.slice none 0 0)
  have hRa : Row ((w.alloc (.cells #[.int .i64 0, .slice none 0 0] 24)).alloc (.cells #[.int .i64 0, .slice none 0 0] 24)) (w.heap.size + 1) 24 [.int .i64 0, .slice none 0 0] := Row.new_at _ _ (by simp) _ _ _ rfl
  go_enter Tryd.func29, Tryd.ntmps29
  go_upto_region 2 with (refine wpList_store_row rfl 24 (.tmp 4) (.tmp 6) rfl (w.heap.size + 1) rfl [.int .i64 kind, .slice none 0 0] rfl _ _ hRa (by exact size_engine) rfl (one_pair _ _ rfl rfl) ?_)
  have hR1 := hRa.setRow [.int .i64 kind, .slice none 0 0]
  have hR2 : Row (((w.alloc (.cells #[.int .i64 0, .slice none 0 0] 24)).alloc (.cells #[.int .i64 0, .slice none 0 0] 24)).setRow (w.heap.size + 1) [.int .i64 kind, .slice none 0 0].toArray) w.heap.size 24 [.int .i64 0, .slice none 0 0] := (hR0.alloc _).setRow_other (by omega) _
  have hB : Below w.heap.size w (((w.alloc (.cells #[.int .i64 0, .slice none 0 0] 24)).alloc (.cells #[.int .i64 0, .slice none 0 0] 24)).setRow (w.heap.size + 1) [.int .i64 kind, .slice none 0 0].toArray) := below_setRow (below_new hB0 _) (by omega) _
  generalize ((w.alloc (.cells #[.int .i64 0, .slice none 0 0] 24)).alloc (.cells #[.int .i64 0, .slice none 0 0] 24)).setRow (w.heap.size + 1) [.int .i64 kind, .slice none 0 0].toArray = w1 at hR1 hR2 hB ⊢
  clear hRa hR0 hB0
  go_wp2_with (refine wpList_load_part rfl 24 (.tmp 4) rfl (w.heap.size + 1) 0 rfl _ _ hR1 [.int .i64 kind, .slice none 0 0] (by rfl) _ Tryd.underlying24 rfl (by exact size_engine) ?_)
  refine (rightE_any kind [] 0 none 0 _ (Lib.hid rfl) (Lib.hid lenT.nil) RdT.nil (fun x hx => by cases hx) (by omega) (Nat.le_refl _)).mono ?_
  rintro e w2 ⟨rfl, hb⟩
  rw [show conT [] = [] from rfl, HR.out]
  replace hR1 := hR1.later hb
  replace hR2 := hR2.later hb
  replace hB := below_step hB hb
  clear hb
  go_wp2_with (first | (refine wpList_load_part rfl 24 (.tmp 4) rfl (w.heap.size + 1) 0 rfl _ _ hR1 [.int .i64 kind, .slice none 0 0] (by rfl) _ Tryd.underlying24 rfl (by exact size_engine) ?_) | (refine wpList_store_row rfl 24 (.tmp 2) (.tmp 11) rfl w.heap.size rfl [.int .i64 kind, .slice none 0 0] rfl _ _ hR2 (by exact size_engine) rfl (one_pair _ _ rfl rfl) ?_))
  refine bodyPost_ret (results_row_tmp (p := 2) (u := 3) (ty := 24) (by rfl) _ _ w.heap.size 24 _ _ (by rfl) (by exact hR2.setRow _) Tryd.underlying24 (by rfl) (by exact size_engine)) (by rfl) ?_
  exact ⟨none, 0, rfl, below_setRow hB (Nat.le_refl _) _⟩
theorem newE_good (kind : Int) (w : World) (h : kind = 1 ∨ kind = 2) :
    Calls Tryd.prog 29 #[.int .i64 kind] w fun e w' => ∃ A c, e = .returned (.tuple #[.agg #[.int .i64 kind, .slice A 0 c], .int .i64 0]) ∧ Below w.heap.size w w' := newE_one kind w (by
  rcases h with rfl | rfl
  · exact Lib.hid (by decide +kernel)
  · exact Lib.hid (by decide +kernel))
theorem newE_bad (kind : Int) (w : World) (h1 : kind ≠ 1) (h2 : kind ≠ 2) :
    Calls Tryd.prog 29 #[.int .i64 kind] w fun e w' => ∃ A c, e = .returned (.tuple #[.agg #[.int .i64 0, .slice A 0 c], .int .i64 1]) ∧ Below w.heap.size w w' := by
  have HR : Hid (rightE kind [] = false) := by unfold Hid rightE; simp [h1, h2]
  obtain ⟨hR0, hB0⟩ := box_rows w 24 (.int .i64 0) (.slice none 0 0)
  have hRa : Row ((w.alloc (.cells #[.int .i64 0, .slice none 0 0] 24)).alloc (.cells #[.int .i64 0, .slice none 0 0] 24)) (w.heap.size + 1) 24 [.int .i64 0, .slice none 0 0] := Row.new_at _ _ (by simp) _ _ _ rfl
  go_enter Tryd.func29, Tryd.ntmps29
  go_upto_region 2 with (refine wpList_store_row rfl 24 (.tmp 4) (.tmp 6) rfl (w.heap.size + 1) rfl [.int .i64 kind, .slice none 0 0] rfl _ _ hRa (by exact size_engine) rfl (one_pair _ _ rfl rfl) ?_)
  have hR1 := hRa.setRow [.int .i64 kind, .slice none 0 0]
  have hR2 : Row (((w.alloc (.cells #[.int .i64 0, .slice none 0 0] 24)).alloc (.cells #[.int .i64 0, .slice none 0 0] 24)).setRow (w.heap.size + 1) [.int .i64 kind, .slice none 0 0].toArray) w.heap.size 24 [.int .i64 0, .slice none 0 0] := (hR0.alloc _).setRow_other (by omega) _
  have hB : Below w.heap.size w (((w.alloc (.cells #[.int .i64 0, .slice none 0 0] 24)).alloc (.cells #[.int .i64 0, .slice none 0 0] 24)).setRow (w.heap.size + 1) [.int .i64 kind, .slice none 0 0].toArray) := below_setRow (below_new hB0 _) (by omega) _
  generalize ((w.alloc (.cells #[.int .i64 0, .slice none 0 0] 24)).alloc (.cells #[.int .i64 0, .slice none 0 0] 24)).setRow (w.heap.size + 1) [.int .i64 kind, .slice none 0 0].toArray = w1 at hR1 hR2 hB ⊢
  clear hRa hR0 hB0
  go_wp2_with (refine wpList_load_part rfl 24 (.tmp 4) rfl (w.heap.size + 1) 0 rfl _ _ hR1 [.int .i64 kind, .slice none 0 0] (by rfl) _ Tryd.underlying24 rfl (by exact size_engine) ?_)
  refine (rightE_any kind [] 0 none 0 _ (Lib.hid rfl) (Lib.hid lenT.nil) RdT.nil (fun x hx => by cases hx) (by omega) (Nat.le_refl _)).mono ?_
  rintro e w2 ⟨rfl, hb⟩
  rw [show conT [] = [] from rfl, HR.out]
  replace hR2 := hR2.later hb
  replace hB := below_step hB hb
  clear hb hR1
  go_wp2_with (refine wpList_store_row rfl 24 (.tmp 2) (.tmp 10) rfl w.heap.size rfl [.int .i64 0, .slice none 0 0] rfl _ _ hR2 (by exact size_engine) rfl (one_pair _ _ rfl rfl) ?_)
  refine bodyPost_ret (results_row_tmp (p := 2) (u := 3) (ty := 24) (by rfl) _ _ w.heap.size 24 _ _ (by rfl) (by exact hR2.setRow _) Tryd.underlying24 (by rfl) (by exact size_engine)) (by rfl) ?_
  exact ⟨none, 0, rfl, below_setRow hB (Nat.le_refl _) _⟩
end Go.Proofs.YtcejbofdgljemaaDoor
/-
  A literal's bytes, converted to their own type: a row with a frozen mark reads as the bytes did (no program is named here). No conditions but those typed.
-/
namespace Go.Proofs.YtcejbofdgljemaaDoor
set_option maxRecDepth 100000
open Go.RowKit

theorem Rd.new_fr {α : Type} {f : α → Value} (w : World) (g : Nat) (hg : g = w.heap.size) (l : List α) (cs : Array Value) (e : TypeId) (fr : Nat × Nat) (h : cs = (l.map f).toArray) : Rd f (w.alloc (.cells cs e fr)) (some ⟨g, 0, none⟩) l := fun _ => by
  subst hg
  refine ⟨w.heap.size, 0, rfl, fun i hi => ?_⟩
  subst h
  rw [cell_of_row _ w.heap.size (0 + i) _ e fr (heap_alloc_new w _)]
  simp [hi]
end Go.Proofs.YtcejbofdgljemaaDoor
/-
  What the call awake of layer 6's statements answers: true. Condition: the package's table holds the sixty-four constants.
-/
namespace Go.Proofs.YtcejbofdgljemaaDoor
set_option maxRecDepth 100000
open Go.RowKit
set_option linter.unusedSimpArgs false
set_option linter.unusedVariables false

theorem conT_none : conT [] = [] := rfl
def mK : List UInt8 := [107]
def mM : List UInt8 := [109]
def mN : List UInt8 := [110]
theorem lenT_one : lenT [(mK, mM)] := fun x hx => by
  rw [List.mem_singleton.1 hx]
  exact ⟨by decide, by decide⟩
theorem mw_before [Inhabited Tab] : fitsE 2 [] (mK, mM) [0, 0, 0, 0, 0, 0, 0, 1] = false := by simp [fitsE]
theorem mw_right2 : rightE 2 [] = true := by decide +kernel
theorem mw_right1 : rightE 1 [] = true := by decide +kernel
theorem mw_terms : termsE 2 [] (mK, mM) = [(mK, mM)] := by decide +kernel
theorem mw_tag [Inhabited Tab] : bytesE 2 [] (mK, mM) = [0, 0, 0, 0, 0, 0, 0, 1] := by
  rw [bytesE, if_pos rfl]
  decide +kernel
theorem mw_fit [Inhabited Tab] : fitsE 2 [(mK, mM)] (mK, mM) [0, 0, 0, 0, 0, 0, 0, 1] = true := by
  have h : bytesE 2 [(mK, mM)] (mK, mM) = [0, 0, 0, 0, 0, 0, 0, 1] := by
    rw [bytesE, if_pos rfl]
    decide +kernel
  have h1 : rightE 2 [(mK, mM)] = true := by decide +kernel
  unfold fitsE
  rw [h, h1]
  simp
theorem mw_unfit [Inhabited Tab] : fitsE 2 [(mK, mM)] (mK, mN) [0, 0, 0, 0, 0, 0, 0, 1] = false := by
  have h : (mK, mN) ∉ [(mK, mM)] := by decide +kernel
  unfold fitsE
  simp [h]
theorem mw_right : rightE 2 [(mK, mM)] = true := by decide +kernel
theorem mw_made [Inhabited Tab] : fitsE 1 [] (mK, mM) (bytesE 1 [] (mK, mM)) = true := by
  rw [fitsE_made (K := 1) (cs := []) (ds := []) (mK, mM) _ mw_right1 (.inl rfl)]
  simp
theorem two_rdM (w : World) (a b : UInt8) : Rd vB ((w.alloc (.cells #[vB a] 5 (1, 2))).alloc (.cells #[vB b] 5 (1, 2))) (some ⟨w.heap.size, 0, none⟩) [a] ∧ Rd vB ((w.alloc (.cells #[vB a] 5 (1, 2))).alloc (.cells #[vB b] 5 (1, 2))) (some ⟨w.heap.size + 1, 0, none⟩) [b] ∧ Below w.heap.size w ((w.alloc (.cells #[vB a] 5 (1, 2))).alloc (.cells #[vB b] 5 (1, 2))) :=
  ⟨(Rd.new_fr w _ rfl _ _ _ _ rfl).keep (below_new (Below.refl _ _) _), Rd.new_fr _ _ (by simp) _ _ _ _ rfl, below_new (below_new (Below.refl _ _) _) _⟩
theorem okT_nil (w : World) : okT w [] := fun x hx => by cases hx

set_option maxRecDepth 100000 in
set_option maxHeartbeats 2000000 in
theorem awake6_any [Inhabited Tab] (w : World) (HK : Hid (KTab w)) : Calls Tryd.prog 15 #[] w fun e w' => e = .returned (.bool true) ∧ Below w.heap.size w w' := by
  go_enter Tryd.func15, Tryd.ntmps15
  go_wp2_with fail
  refine (newE_good 2 _ (.inr rfl)).mono ?_
  rintro e w1 ⟨A1, c1, rfl, hB⟩
  have HK1 := HK
  replace HK := Lib.hid (HK.out.keep hB)
  have HK0 := HK1
  have hg1w := hB.size
  have hR0 : Row (w1.alloc (.cells #[.int .i64 0, .slice none 0 0] 24)) w1.heap.size 24 [.int .i64 0, .slice none 0 0] := Row.new w1 _ _ _ rfl
  go_upto_region 2 with (refine wpList_store_row rfl 24 (.tmp 1) (.tmp 15) rfl w1.heap.size rfl [.int .i64 2, .slice A1 0 c1] rfl _ _ hR0 (by exact size_engine) rfl (one_pair _ _ rfl rfl) ?_)
  have hR1 := hR0.setRow [.int .i64 2, .slice A1 0 c1]
  have hbn : Below w1.heap.size w1 ((w1.alloc (.cells #[.int .i64 0, .slice none 0 0] 24)).setRow w1.heap.size [.int .i64 2, .slice A1 0 c1].toArray) := below_setRow (below_new (Below.refl _ _) _) (Nat.le_refl _) _
  generalize (w1.alloc (.cells #[.int .i64 0, .slice none 0 0] 24)).setRow w1.heap.size [.int .i64 2, .slice A1 0 c1].toArray = w2 at hR1 hbn ⊢
  replace HK := Lib.hid (HK.out.keep hbn)
  replace hB := below_step hB hbn
  clear hbn
  clear hR0
  generalize w1.heap.size = g1 at hR1 hg1w ⊢
  have hcv1 := Lib.run_convert_bytes_const (P := Tryd.prog) w2 25 5 #[.int .u8 107] 1 1 Tryd.underlying25 Tryd.underlying5
  have hcv2 := Joins.run_convert_bytes_const_at (P := Tryd.prog) (w2.alloc (.cells #[.int .u8 107] 5 (1, 2))) 25 5 #[.int .u8 109] 1 1 (w2.heap.size + 1) (by simp) Tryd.underlying25 Tryd.underlying5
  go_wp2_with (refine wpList_load_part rfl 24 (.tmp 1) rfl g1 0 rfl _ _ hR1 [.int .i64 2, .slice A1 0 c1] (by rfl) _ Tryd.underlying24 rfl (by exact size_engine) ?_)
  clear hcv1 hcv2
  obtain ⟨hk, hm, hbx⟩ := two_rdM w2 107 109
  have hbo := below_new (Below.refl _ ((w2.alloc (.cells #[vB 107] 5 (1, 2))).alloc (.cells #[vB 109] 5 (1, 2)))) (.cells #[.int .u8 0, .int .u8 0, .int .u8 0, .int .u8 0, .int .u8 0, .int .u8 0, .int .u8 0, .int .u8 1] 5)
  refine (fitsE_any 2 [] mK mM [0, 0, 0, 0, 0, 0, 0, 1] 0 1 1 8 A1 _ _ _ c1 _ _ _ _ (Lib.hid rfl) (Lib.hid lenT.nil) (Lib.hid rfl) (Lib.hid rfl) (Lib.hid rfl) RdT.nil (okT_nil _) (by exact hk.keep hbo) (by exact hm.keep hbo) (by exact Rd.new_at _ (w2.heap.size + 1 + 1) (by simp) _ _ _ rfl) (by omega) (by omega) (by omega) (by omega) (by omega) (by omega) (by omega) (by omega) (by exact Lib.hid (HK.out.keep (below_step hbx hbo)))).mono ?_
  rintro e w3 ⟨rfl, hb3⟩
  have hb := below_step (below_step hbx hbo) hb3
  clear hbx hbo hb3 hk hm
  rw [conT_none, mw_before]
  replace hR1 := hR1.later hb
  replace HK := Lib.hid (HK.out.keep hb)
  replace hB := below_step hB hb
  clear hb
  have hcv1 := Lib.run_convert_bytes_const (P := Tryd.prog) w3 25 5 #[.int .u8 107] 1 1 Tryd.underlying25 Tryd.underlying5
  have hcv2 := Joins.run_convert_bytes_const_at (P := Tryd.prog) (w3.alloc (.cells #[.int .u8 107] 5 (1, 2))) 25 5 #[.int .u8 109] 1 1 (w3.heap.size + 1) (by simp) Tryd.underlying25 Tryd.underlying5
  go_wp2_with (refine wpList_load_part rfl 24 (.tmp 1) rfl g1 0 rfl _ _ hR1 [.int .i64 2, .slice A1 0 c1] (by rfl) _ Tryd.underlying24 rfl (by exact size_engine) ?_)
  clear hcv1 hcv2
  obtain ⟨hk, hm, hbx⟩ := two_rdM w3 107 109
  refine (tagE_good 2 [] mK mM 0 1 1 A1 _ _ c1 _ _ _ (Lib.hid rfl) (Lib.hid lenT.nil) (Lib.hid rfl) (Lib.hid rfl) RdT.nil (okT_nil _) (by exact hk) (by exact hm) (by omega) (by omega) (by omega) (by omega) (by omega) (by omega) (Lib.hid mw_right2) (by exact Lib.hid (HK.out.keep hbx))).mono ?_
  rintro e w4 ⟨us, p, A2, c2, tA, tc, rfl, HP, hpc, htc, htu, hoku, HC, hrt, hb4⟩
  have hC : conT us = [(mK, mM)] := by rw [HC.out]; exact mw_terms
  have HLU : Hid (lenT (conT us)) := by unfold Hid; rw [hC]; exact lenT_one
  have hp : p = 1 := by rw [← HP.out, ← conT_length, hC]; rfl
  subst hp
  have hrt' : Rd vB w4 tA [0, 0, 0, 0, 0, 0, 0, 1] := by rw [← mw_tag]; exact hrt
  have hb := below_step hbx hb4
  clear hbx hb4 hk hm HC hrt
  replace hR1 := hR1.later hb
  replace HK := Lib.hid (HK.out.keep hb)
  replace hB := below_step hB hb
  clear hb
  have hg1 := hR1.lt
  go_upto_region 4 with (refine wpList_store_row rfl 24 (.tmp 1) (.tmp 31) rfl g1 rfl [.int .i64 2, .slice A2 1 c2] rfl _ _ hR1 (by exact size_engine) rfl (one_pair _ _ rfl rfl) ?_)
  have hbs : Below w.heap.size w (w4.setRow g1 [.int .i64 2, .slice A2 1 c2].toArray) := below_setRow hB hg1w _
  have hbs2 : Below g1 w4 (w4.setRow g1 [.int .i64 2, .slice A2 1 c2].toArray) := below_setRow (Below.refl _ _) (Nat.le_refl _) _
  have hnb := two_no_byte 2 (.slice A1 0 c1) (slice_no_byte A1 0 c1)
  replace htu := htu.setRow_row hR1 [.int .i64 2, .slice A2 1 c2].toArray
  replace hoku := hoku.setRow_row hR1 hnb [.int .i64 2, .slice A2 1 c2].toArray
  replace hrt' := hrt'.setRow_row hR1 hnb [.int .i64 2, .slice A2 1 c2].toArray
  replace HK := Lib.hid (HK0.out.keep hbs)
  replace hR1 := hR1.setRow [.int .i64 2, .slice A2 1 c2]
  replace hB := hbs
  clear hbs hbs2 hnb
  generalize w4.setRow g1 [.int .i64 2, .slice A2 1 c2].toArray = w5 at htu hoku hrt' HK hR1 hB ⊢
  go_wp2_with fail
  refine (newE_good 1 _ (.inl rfl)).mono ?_
  rintro e w6 ⟨A3, c3, rfl, hb⟩
  replace htu := htu.keep hb
  replace hoku := hoku.keep hb
  replace hrt' := hrt'.keep hb
  replace hR1 := hR1.later hb
  replace HK := Lib.hid (HK.out.keep hb)
  replace hB := below_step hB hb
  clear hb
  clear hg1
  have hR0 : Row (w6.alloc (.cells #[.int .i64 0, .slice none 0 0] 24)) w6.heap.size 24 [.int .i64 0, .slice none 0 0] := Row.new w6 _ _ _ rfl
  go_upto_region 5 with (refine wpList_store_row rfl 24 (.tmp 6) (.tmp 36) rfl w6.heap.size rfl [.int .i64 1, .slice A3 0 c3] rfl _ _ hR0 (by exact size_engine) rfl (one_pair _ _ rfl rfl) ?_)
  have hR6 := hR0.setRow [.int .i64 1, .slice A3 0 c3]
  have hbn : Below w6.heap.size w6 ((w6.alloc (.cells #[.int .i64 0, .slice none 0 0] 24)).setRow w6.heap.size [.int .i64 1, .slice A3 0 c3].toArray) := below_setRow (below_new (Below.refl _ _) _) (Nat.le_refl _) _
  generalize (w6.alloc (.cells #[.int .i64 0, .slice none 0 0] 24)).setRow w6.heap.size [.int .i64 1, .slice A3 0 c3].toArray = w7 at hR6 hbn ⊢
  replace htu := htu.keep hbn
  replace hoku := hoku.keep hbn
  replace hrt' := hrt'.keep hbn
  replace hR1 := hR1.later hbn
  replace HK := Lib.hid (HK.out.keep hbn)
  replace hB := below_step hB hbn
  clear hbn
  clear hR0
  generalize w6.heap.size = g6 at hR6 ⊢
  have hcv1 := Lib.run_convert_bytes_const (P := Tryd.prog) w7 25 5 #[.int .u8 107] 1 1 Tryd.underlying25 Tryd.underlying5
  have hcv2 := Joins.run_convert_bytes_const_at (P := Tryd.prog) (w7.alloc (.cells #[.int .u8 107] 5 (1, 2))) 25 5 #[.int .u8 109] 1 1 (w7.heap.size + 1) (by simp) Tryd.underlying25 Tryd.underlying5
  go_wp2_with (refine wpList_load_part rfl 24 (.tmp 6) rfl g6 0 rfl _ _ hR6 [.int .i64 1, .slice A3 0 c3] (by rfl) _ Tryd.underlying24 rfl (by exact size_engine) ?_)
  clear hcv1 hcv2
  obtain ⟨hk, hm, hbx⟩ := two_rdM w7 107 109
  refine (tagE_good 1 [] mK mM 0 1 1 A3 _ _ c3 _ _ _ (Lib.hid rfl) (Lib.hid lenT.nil) (Lib.hid rfl) (Lib.hid rfl) RdT.nil (okT_nil _) (by exact hk) (by exact hm) (by omega) (by omega) (by omega) (by omega) (by omega) (by omega) (Lib.hid mw_right1) (by exact Lib.hid (HK.out.keep hbx))).mono ?_
  rintro e w8 ⟨vs, q, A4, c4, tB, td, rfl, HQ, hqc, htd, htv, hokv, HD, hrd, hb8⟩
  have hb := below_step hbx hb8
  clear hbx hb8 hk hm HD HQ htv hokv
  replace htu := htu.keep hb
  replace hoku := hoku.keep hb
  replace hrt' := hrt'.keep hb
  replace hR1 := hR1.later hb
  replace hR6 := hR6.later hb
  replace HK := Lib.hid (HK.out.keep hb)
  replace hB := below_step hB hb
  clear hb
  have hR0 : Row (w8.alloc (.cells #[.int .i64 0, .slice none 0 0] 24)) w8.heap.size 24 [.int .i64 0, .slice none 0 0] := Row.new w8 _ _ _ rfl
  go_upto_region 6 with (refine wpList_store_row rfl 24 (.tmp 8) (.tmp 45) rfl w8.heap.size rfl [.int .i64 1, .slice A4 q c4] rfl _ _ hR0 (by exact size_engine) rfl (one_pair _ _ rfl rfl) ?_)
  have hR8 := hR0.setRow [.int .i64 1, .slice A4 q c4]
  have hbn : Below w8.heap.size w8 ((w8.alloc (.cells #[.int .i64 0, .slice none 0 0] 24)).setRow w8.heap.size [.int .i64 1, .slice A4 q c4].toArray) := below_setRow (below_new (Below.refl _ _) _) (Nat.le_refl _) _
  generalize (w8.alloc (.cells #[.int .i64 0, .slice none 0 0] 24)).setRow w8.heap.size [.int .i64 1, .slice A4 q c4].toArray = w9 at hR8 hbn ⊢
  replace htu := htu.keep hbn
  replace hoku := hoku.keep hbn
  replace hrt' := hrt'.keep hbn
  replace hrd := hrd.keep hbn
  replace hR1 := hR1.later hbn
  replace hR6 := hR6.later hbn
  replace HK := Lib.hid (HK.out.keep hbn)
  replace hB := below_step hB hbn
  clear hbn
  clear hR0 hR8
  go_wp2_with fail
  refine (newE_bad 3 _ (by decide) (by decide)).mono ?_
  rintro e w10 ⟨A5, c5, rfl, hb⟩
  replace htu := htu.keep hb
  replace hoku := hoku.keep hb
  replace hrt' := hrt'.keep hb
  replace hrd := hrd.keep hb
  replace hR1 := hR1.later hb
  replace hR6 := hR6.later hb
  replace HK := Lib.hid (HK.out.keep hb)
  replace hB := below_step hB hb
  clear hb
  have hR0 : Row (w10.alloc (.cells #[.int .i64 0, .slice none 0 0] 24)) w10.heap.size 24 [.int .i64 0, .slice none 0 0] := Row.new w10 _ _ _ rfl
  have z1 : (w10.alloc (.cells #[.int .i64 0, .slice none 0 0] 24)).setRow w10.heap.size [.int .i64 0, .slice A5 0 c5].toArray = (w10.alloc (.cells #[.int .i64 0, .slice none 0 0] 24)).setRow w10.heap.size [.int .i64 0, .slice A5 0 c5].toArray := rfl
  have hbn : Below w10.heap.size w10 ((w10.alloc (.cells #[.int .i64 0, .slice none 0 0] 24)).setRow w10.heap.size [.int .i64 0, .slice A5 0 c5].toArray) := below_setRow (below_new (Below.refl _ _) _) (Nat.le_refl _) _
  replace htu := htu.keep hbn
  replace hoku := hoku.keep hbn
  replace hrt' := hrt'.keep hbn
  replace hrd := hrd.keep hbn
  replace hR1 := hR1.later hbn
  replace hR6 := hR6.later hbn
  replace HK := Lib.hid (HK.out.keep hbn)
  replace hB := below_step hB hbn
  obtain ⟨W, hW⟩ : ∃ W, W = (w10.alloc (.cells #[.int .i64 0, .slice none 0 0] 24)).setRow w10.heap.size [.int .i64 0, .slice A5 0 c5].toArray := ⟨_, rfl⟩
  rw [← hW] at htu hoku hrt' hrd HK hR1 hR6 hB
  have c0 : W.cell? ⟨g1, 0, none⟩ = some (.int .i64 2) := hR1.cell rfl
  have c1' : W.cell? ⟨g1, 1, none⟩ = some (.slice A2 1 c2) := hR1.cell rfl
  clear hbn z1
  have hcv1 := Lib.run_convert_bytes_const (P := Tryd.prog) W 25 5 #[.int .u8 107] 1 1 Tryd.underlying25 Tryd.underlying5
  have hcv2 := Joins.run_convert_bytes_const_at (P := Tryd.prog) (W.alloc (.cells #[.int .u8 107] 5 (1, 2))) 25 5 #[.int .u8 109] 1 1 (W.heap.size + 1) (by simp) Tryd.underlying25 Tryd.underlying5
  go_wp2_with (refine wpList_store_row rfl 24 (.tmp 11) (.tmp 50) rfl w10.heap.size rfl [.int .i64 0, .slice A5 0 c5] rfl _ _ hR0 (by exact size_engine) rfl (one_pair _ _ rfl rfl) ?_; rw [← hW]; clear hW hR0)
  clear hcv1 hcv2
  obtain ⟨hk, hm, hbx⟩ := two_rdM W 107 109
  refine (fitsE_any 2 us mK mM [0, 0, 0, 0, 0, 0, 0, 1] 1 1 1 8 A2 _ _ tA c2 _ _ tc _ HP HLU (Lib.hid rfl) (Lib.hid rfl) (Lib.hid rfl) (htu.keep hbx) (hoku.keep hbx) (by exact hk) (by exact hm) (hrt'.keep hbx) (by omega) hpc (by omega) (by omega) (by omega) (by omega) (by omega) htc (by exact Lib.hid (HK.out.keep hbx))).mono ?_
  rintro e w11 ⟨rfl, hb11⟩
  rw [hC, mw_fit]
  have hb := below_step hbx hb11
  clear hbx hb11 hk hm c0 c1'
  replace htu := htu.keep hb
  replace hoku := hoku.keep hb
  replace hrt' := hrt'.keep hb
  replace hrd := hrd.keep hb
  replace hR1 := hR1.later hb
  replace hR6 := hR6.later hb
  replace HK := Lib.hid (HK.out.keep hb)
  replace hB := below_step hB hb
  clear hb
  have c0 : w11.cell? ⟨g1, 0, none⟩ = some (.int .i64 2) := hR1.cell rfl
  have c1' : w11.cell? ⟨g1, 1, none⟩ = some (.slice A2 1 c2) := hR1.cell rfl
  have hcv1 := Lib.run_convert_bytes_const (P := Tryd.prog) w11 25 5 #[.int .u8 107] 1 1 Tryd.underlying25 Tryd.underlying5
  have hcv2 := Joins.run_convert_bytes_const_at (P := Tryd.prog) (w11.alloc (.cells #[.int .u8 107] 5 (1, 2))) 25 5 #[.int .u8 110] 1 1 (w11.heap.size + 1) (by simp) Tryd.underlying25 Tryd.underlying5
  go_wp2_with fail
  clear hcv1 hcv2
  obtain ⟨hk, hm, hbx⟩ := two_rdM w11 107 110
  refine (fitsE_any 2 us mK mN [0, 0, 0, 0, 0, 0, 0, 1] 1 1 1 8 A2 _ _ tA c2 _ _ tc _ HP HLU (Lib.hid rfl) (Lib.hid rfl) (Lib.hid rfl) (htu.keep hbx) (hoku.keep hbx) (by exact hk) (by exact hm) (hrt'.keep hbx) (by omega) hpc (by omega) (by omega) (by omega) (by omega) (by omega) htc (by exact Lib.hid (HK.out.keep hbx))).mono ?_
  rintro e w12 ⟨rfl, hb11⟩
  rw [hC, mw_unfit]
  have hb := below_step hbx hb11
  clear hbx hb11 hk hm c0 c1'
  replace htu := htu.keep hb
  replace hoku := hoku.keep hb
  replace hrt' := hrt'.keep hb
  replace hrd := hrd.keep hb
  replace hR1 := hR1.later hb
  replace hR6 := hR6.later hb
  replace HK := Lib.hid (HK.out.keep hb)
  replace hB := below_step hB hb
  clear hb
  have c0 : w12.cell? ⟨g6, 0, none⟩ = some (.int .i64 1) := hR6.cell rfl
  have c1' : w12.cell? ⟨g6, 1, none⟩ = some (.slice A3 0 c3) := hR6.cell rfl
  have hcv1 := Lib.run_convert_bytes_const (P := Tryd.prog) w12 25 5 #[.int .u8 107] 1 1 Tryd.underlying25 Tryd.underlying5
  have hcv2 := Joins.run_convert_bytes_const_at (P := Tryd.prog) (w12.alloc (.cells #[.int .u8 107] 5 (1, 2))) 25 5 #[.int .u8 109] 1 1 (w12.heap.size + 1) (by simp) Tryd.underlying25 Tryd.underlying5
  go_wp2_with fail
  clear hcv1 hcv2
  obtain ⟨hk, hm, hbx⟩ := two_rdM w12 107 109
  have H8 : Hid ((bytesE 1 [] (mK, mM)).length = 8) := bytesE_length _ _ _
  refine (fitsE_any 1 [] mK mM (bytesE 1 [] (mK, mM)) 0 1 1 8 A3 _ _ tB c3 _ _ td _ (Lib.hid rfl) (Lib.hid lenT.nil) (Lib.hid rfl) (Lib.hid rfl) H8 RdT.nil (okT_nil _) (by exact hk) (by exact hm) (hrd.keep hbx) (by omega) (by omega) (by omega) (by omega) (by omega) (by omega) (by omega) htd (by exact Lib.hid (HK.out.keep hbx))).mono ?_
  rintro e w13 ⟨rfl, hb11⟩
  rw [conT_none, mw_made]
  have hb := below_step hbx hb11
  clear hbx hb11 hk hm c0 c1'
  replace htu := htu.keep hb
  replace hoku := hoku.keep hb
  replace hrt' := hrt'.keep hb
  replace hrd := hrd.keep hb
  replace hR1 := hR1.later hb
  replace hR6 := hR6.later hb
  replace HK := Lib.hid (HK.out.keep hb)
  replace hB := below_step hB hb
  clear hb
  have c0 : w13.cell? ⟨g1, 0, none⟩ = some (.int .i64 2) := hR1.cell rfl
  have c1' : w13.cell? ⟨g1, 1, none⟩ = some (.slice A2 1 c2) := hR1.cell rfl
  go_wp2_with fail
  refine (rightE_any 2 us 1 A2 c2 _ HP HLU htu hoku (by omega) hpc).mono ?_
  rintro e w14 ⟨rfl, hb⟩
  rw [hC, mw_right]
  go_wp2_with fail
  go_ret
  exact ⟨rfl, below_step hB hb⟩
end Go.Proofs.YtcejbofdgljemaaDoor
/-
  What comes in at the laws of layer 6. No conditions but those typed.
-/
namespace Go.Proofs.YtcejbofdgljemaaDoor
set_option maxRecDepth 100000
open Go.RowKit

/-- What comes in: terms in memory, whose bytes are there, no longer than may be. -/
def inE (w : World) (A : Option Addr) (ts : List TD) : Prop := RdT w A ts ∧ okT w ts ∧ ∀ x ∈ ts, x.k.length ≤ 9223372036854775807 ∧ x.m.length ≤ 9223372036854775807
theorem inE.keep {w w' : World} {A : Option Addr} {ts : List TD} (h : inE w A ts) (hb : Below w.heap.size w w') : inE w' A ts := ⟨h.1.keep hb, h.2.1.keep hb, h.2.2⟩
theorem short_le {ts : List TD} {p : Nat} (HP : Hid (ts.length = p)) (HS : Hid (shortT (conT ts) = true)) : p ≤ 400 := by
  have := HS.out
  unfold shortT at this
  rw [decide_eq_true_eq, conT_length, HP.out] at this
  exact this.1
theorem conj {a b : Prop} (x : a) (y : b) : a ∧ b := ⟨x, y⟩
theorem termsE_lenT {K : Int} {cs : List Tm} {key msg : List UInt8} (h : lenT cs) (hk : key.length ≤ 1000000000) (hm : msg.length ≤ 1000000000) : lenT (termsE K cs (key, msg)) := by
  unfold termsE
  split
  · exact h.put hk hm
  · exact h
end Go.Proofs.YtcejbofdgljemaaDoor
/-
  The walk of the law MacSymbolic: by a Symbolic engine a tag that fits one text and key fits no other; what was never made fits nothing. Condition: the package's table holds the sixty-four constants.
-/
namespace Go.Proofs.YtcejbofdgljemaaDoor
set_option maxRecDepth 100000
open Go.RowKit
set_option linter.unusedSimpArgs false
set_option linter.unusedVariables false

def MadeRel (cs : List Tm) (x : Tm) (w : World) (v i : Value) (wr : World) : Prop :=
  ∃ k : Nat, k ≤ cs.length ∧ i = .int .i64 (k : Int) ∧ v = .bool (decide (x ∈ cs.take k)) ∧ Below w.heap.size w wr
theorem made_next (cs : List Tm) (x : Tm) (k : Nat) (hk : k < cs.length) : decide (x ∈ cs.take (k + 1)) = (decide (x ∈ cs.take k) || decide (cs[k] = x)) := by
  rw [List.take_succ_eq_append_getElem hk]
  by_cases h1 : x ∈ cs.take k
  · rw [decide_eq_true (List.mem_append_left _ h1), decide_eq_true h1]
    rfl
  · by_cases h2 : cs[k] = x
    · rw [decide_eq_true (List.mem_append_right _ (by rw [h2]; exact List.mem_singleton.2 rfl)), decide_eq_true h2, Bool.or_true]
    · rw [decide_eq_false h1, decide_eq_false h2, decide_eq_false]
      · rfl
      · intro h
        rcases List.mem_append.1 h with h | h
        · exact h1 h
        · exact h2 (List.mem_singleton.1 h).symm

end Go.Proofs.YtcejbofdgljemaaDoor
/-
  The walk of the law MacFits: a tag that was made fits its text and key, by the engine behind it, and behind another one; turned at one place, or cut, it fits no more; a Concrete one is the beginning of layer 3's tag. Condition: the package's table holds the sixty-four constants.
-/
namespace Go.Proofs.YtcejbofdgljemaaDoor
set_option maxRecDepth 100000
open Go.RowKit
set_option linter.unusedSimpArgs false
set_option linter.unusedVariables false

theorem xor_same (a y : UInt8) : xorB a y = a ↔ y = 0 := by
  constructor
  · intro h
    have e : xorB a (xorB a y) = xorB a a := by rw [h]
    unfold xorB at e
    rw [← UInt8.xor_assoc, UInt8.xor_self, UInt8.zero_xor] at e
    exact e
  · intro h
    subst h
    exact UInt8.xor_zero
theorem turned_is (T : List UInt8) (q : Nat) (hq : q < T.length) (y : UInt8) : decide (T = T.set q (xorB T[q] y)) = decide (y = 0) := by
  by_cases h : y = 0
  · subst h
    have : xorB T[q] 0 = T[q] := UInt8.xor_zero
    rw [this]
    simp
  · rw [decide_eq_false h, decide_eq_false]
    intro e
    apply h
    have := congrArg (·[q]?) e
    simp [hq] at this
    exact (xor_same _ _).1 this.symm

set_option maxRecDepth 100000 in
set_option maxHeartbeats 4000000 in
theorem macfits_core [Inhabited Tab] (Kn : Int) (ts : List TD) (key msg oth : List UInt8) (p n m q at0 : Nat) (y : UInt8) (A B C D : Option Addr) (c d e f : Nat) (w : World) (HP : Hid (ts.length = p)) (HN : Hid (key.length = n)) (HM : Hid (msg.length = m)) (HQ : Hid (oth.length = q)) (ht : inE w A ts) (hk : Rd vB w B key) (hm : Rd vB w C msg) (hg : Rd vB w D oth)
    (hpc : p ≤ c) (hnd : n ≤ d) (hme : m ≤ e) (hqf : q ≤ f) (hn : n ≤ 2000) (hmm : m ≤ 2000) (hq : q ≤ 2000) (hat : at0 < 256) (HS : Hid (shortT (conT ts) = true)) (HK : Hid (KTab w)) :
    Calls Tryd.prog 5 #[.agg #[.int .i64 Kn, .slice A p c], .slice B n d, .slice C m e, .slice D q f, .int .u8 (at0 : Int), .int .u8 (y.toNat : Int)] w fun e w' => e = .returned (.bool true) ∧ Below w.heap.size w w' := by
  have hp : p ≤ 400 := short_le HP HS
  have HLT : Hid (lenT (conT ts)) := lenT.short HS.out
  have g1 : decide ((2000 : Int) < (n : Int)) = false := by simp; omega
  have g2 : decide ((2000 : Int) < (m : Int)) = false := by simp; omega
  have g3 : decide ((2000 : Int) < (q : Int)) = false := by simp; omega
  have n1 : ¬ 2000 < n := by omega
  have n2 : ¬ 2000 < m := by omega
  have n3 : ¬ 2000 < q := by omega
  obtain ⟨i0, hi, hz0, hz1, hz2⟩ := info_parts info_u8
  obtain ⟨hR, hB⟩ := box_rows w 24 (.int .i64 Kn) (.slice A p c)
  replace ht := ht.keep hB
  replace hk := hk.keep hB
  replace hm := hm.keep hB
  replace hg := hg.keep hB
  replace HK := Lib.hid (HK.out.keep hB)
  go_enter Tryd.func5, Tryd.ntmps5
  go_upto_region 1 with fail
  generalize (w.alloc (.cells #[.int .i64 Kn, .slice A p c] 24)) = w1 at hR hB ht hk hm hg HK ⊢
  go_wp2_with fail
  refine (awake6_any _ HK).mono ?_
  rintro e' w2 ⟨rfl, hb⟩
  replace ht := ht.keep hb
  replace hk := hk.keep hb
  replace hm := hm.keep hb
  replace hg := hg.keep hb
  replace hR := hR.later hb
  replace HK := Lib.hid (HK.out.keep hb)
  replace hB := below_step hB hb
  clear hb
  generalize w.heap.size = g0 at hR ⊢
  have c0 : w2.cell? ⟨g0, 1, none⟩ = some (.slice A p c) := hR.cell rfl
  go_wp2_with fail
  refine (refshort_any ts p A c _ HP ht.1 ht.2.2 (by omega)).mono ?_
  rintro e' w3 ⟨rfl, rfl⟩
  rw [HS.out]
  go_upto_region 5 with fail
  clear g1 g2 g3 n1 n2 n3 c0
  obtain ⟨r, hr⟩ : ∃ r, rightE Kn (conT ts) = r := ⟨_, rfl⟩
  have HRR := Lib.hid hr
  cases r with
  | false =>
    clear hr
    go_wp2_with (refine wpList_load_part rfl 24 (.tmp 6) rfl g0 0 rfl _ _ hR [.int .i64 Kn, .slice A p c] (by rfl) _ Tryd.underlying24 rfl (by exact size_engine) ?_)
    refine (tagE_bad Kn ts key msg p n m A B C c d e _ HP HLT ht.1 ht.2.1 (by omega) hpc HRR HK).mono ?_
    rintro e' w7 ⟨us, pu, Au, cu, tA, tc, rfl, HPU, hpu, htu, hoku, HCU, hb⟩
    replace ht := ht.keep hb
    replace hk := hk.keep hb
    replace hm := hm.keep hb
    replace hg := hg.keep hb
    replace hR := hR.later hb
    replace HK := Lib.hid (HK.out.keep hb)
    replace hB := below_step hB hb
    clear hb
    have hR0 : Row (w7.alloc (.cells #[.int .i64 0, .slice none 0 0] 24)) w7.heap.size 24 [.int .i64 0, .slice none 0 0] := Row.new w7 _ _ _ rfl
    go_upto_region 6 with (refine wpList_store_row rfl 24 (.tmp 13) (.tmp 46) rfl w7.heap.size rfl [.int .i64 Kn, .slice Au pu cu] rfl _ _ hR0 (by exact size_engine) rfl (one_pair _ _ rfl rfl) ?_)
    have hRt := hR0.setRow [.int .i64 Kn, .slice Au pu cu]
    have hbn : Below w7.heap.size w7 ((w7.alloc (.cells #[.int .i64 0, .slice none 0 0] 24)).setRow w7.heap.size [.int .i64 Kn, .slice Au pu cu].toArray) := below_setRow (below_new (Below.refl _ _) _) (Nat.le_refl _) _
    generalize (w7.alloc (.cells #[.int .i64 0, .slice none 0 0] 24)).setRow w7.heap.size [.int .i64 Kn, .slice Au pu cu].toArray = w8 at hRt hbn ⊢
    replace ht := ht.keep hbn
    replace hk := hk.keep hbn
    replace hm := hm.keep hbn
    replace hg := hg.keep hbn
    replace hR := hR.later hbn
    replace HK := Lib.hid (HK.out.keep hbn)
    replace hB := below_step hB hbn
    clear hbn
    have d2 : w8.cell? ⟨g0, 0, none⟩ = some (.int .i64 Kn) := hR.cell rfl
    have d3 : w8.cell? ⟨g0, 1, none⟩ = some (.slice A p c) := hR.cell rfl
    clear hRt hR0 htu hoku
    go_wp2_with fail
    refine (rightE_any Kn ts p A c _ HP HLT ht.1 ht.2.1 (by omega) hpc).mono ?_
    rintro e' w9 ⟨rfl, hb⟩
    rw [HRR.out]
    go_wp2_with fail
    go_ret
    exact ⟨rfl, below_step hB hb⟩
  | true =>
    clear hr
    go_wp2_with (refine wpList_load_part rfl 24 (.tmp 6) rfl g0 0 rfl _ _ hR [.int .i64 Kn, .slice A p c] (by rfl) _ Tryd.underlying24 rfl (by exact size_engine) ?_)
    refine (tagE_good Kn ts key msg p n m A B C c d e _ HP HLT HN HM ht.1 ht.2.1 hk hm (by omega) hpc (by omega) (by omega) hnd hme HRR HK).mono ?_
    rintro e' w7 ⟨us, pu, Au, cu, tA, tc, rfl, HPU, hpu, htc, htu, hoku, HCU, hrt, hb⟩
    have HLU : Hid (lenT (conT us)) := by unfold Hid; rw [HCU.out]; exact termsE_lenT HLT.out (by rw [HN.out]; omega) (by rw [HM.out]; omega)
    replace ht := ht.keep hb
    replace hk := hk.keep hb
    replace hm := hm.keep hb
    replace hg := hg.keep hb
    replace hR := hR.later hb
    replace HK := Lib.hid (HK.out.keep hb)
    replace hB := below_step hB hb
    clear hb
    have hR0 : Row (w7.alloc (.cells #[.int .i64 0, .slice none 0 0] 24)) w7.heap.size 24 [.int .i64 0, .slice none 0 0] := Row.new w7 _ _ _ rfl
    go_upto_region 6 with (refine wpList_store_row rfl 24 (.tmp 13) (.tmp 46) rfl w7.heap.size rfl [.int .i64 Kn, .slice Au pu cu] rfl _ _ hR0 (by exact size_engine) rfl (one_pair _ _ rfl rfl) ?_)
    have hRt := hR0.setRow [.int .i64 Kn, .slice Au pu cu]
    have hbn : Below w7.heap.size w7 ((w7.alloc (.cells #[.int .i64 0, .slice none 0 0] 24)).setRow w7.heap.size [.int .i64 Kn, .slice Au pu cu].toArray) := below_setRow (below_new (Below.refl _ _) _) (Nat.le_refl _) _
    generalize (w7.alloc (.cells #[.int .i64 0, .slice none 0 0] 24)).setRow w7.heap.size [.int .i64 Kn, .slice Au pu cu].toArray = w8 at hRt hbn ⊢
    replace ht := ht.keep hbn
    replace hk := hk.keep hbn
    replace hm := hm.keep hbn
    replace hg := hg.keep hbn
    replace htu := htu.keep hbn
    replace hoku := hoku.keep hbn
    replace hrt := hrt.keep hbn
    replace hR := hR.later hbn
    replace HK := Lib.hid (HK.out.keep hbn)
    replace hB := below_step hB hbn
    clear hbn
    clear hR0
    generalize w7.heap.size = g7 at hRt ⊢
    have hpu2 : pu ≤ 401 := by
      have := termsE_le (K := Kn) (cs := conT ts) (key, msg)
      rw [← HCU.out, conT_length, conT_length, HP.out, HPU.out] at this
      omega
    have HRU : Hid (rightE Kn (conT us) = true) := by unfold Hid; rw [HCU.out]; exact termsE_right _ HRR.out
    go_wp2_with (refine wpList_load_part rfl 24 (.tmp 13) rfl g7 0 rfl _ _ hRt [.int .i64 Kn, .slice Au pu cu] (by rfl) _ Tryd.underlying24 rfl (by exact size_engine) ?_)
    refine (tagE_good Kn us key oth pu n q Au B D cu d f _ HPU HLU HN HQ htu hoku hk hg (by omega) hpu (by omega) (by omega) hnd hqf HRU HK).mono ?_
    rintro e' w9 ⟨vs, pv, Av, cv, tB, td, rfl, HPV, hpv, htd, htv, hokv, HCV, hrd, hb⟩
    have HLV : Hid (lenT (conT vs)) := by unfold Hid; rw [HCV.out]; exact termsE_lenT HLU.out (by rw [HN.out]; omega) (by rw [HQ.out]; omega)
    clear hrd htd
    clear hg
    replace ht := ht.keep hb
    replace hk := hk.keep hb
    replace hm := hm.keep hb
    replace htu := htu.keep hb
    replace hoku := hoku.keep hb
    replace hrt := hrt.keep hb
    replace hR := hR.later hb
    replace hRt := hRt.later hb
    replace HK := Lib.hid (HK.out.keep hb)
    replace hB := below_step hB hb
    clear hb
    have hR0 : Row (w9.alloc (.cells #[.int .i64 0, .slice none 0 0] 24)) w9.heap.size 24 [.int .i64 0, .slice none 0 0] := Row.new w9 _ _ _ rfl
    go_upto_region 9 with (refine wpList_store_row rfl 24 (.tmp 16) (.tmp 64) rfl w9.heap.size rfl [.int .i64 Kn, .slice Av pv cv] rfl _ _ hR0 (by exact size_engine) rfl (one_pair _ _ rfl rfl) ?_)
    have hRv := hR0.setRow [.int .i64 Kn, .slice Av pv cv]
    have hbn : Below w9.heap.size w9 ((w9.alloc (.cells #[.int .i64 0, .slice none 0 0] 24)).setRow w9.heap.size [.int .i64 Kn, .slice Av pv cv].toArray) := below_setRow (below_new (Below.refl _ _) _) (Nat.le_refl _) _
    generalize (w9.alloc (.cells #[.int .i64 0, .slice none 0 0] 24)).setRow w9.heap.size [.int .i64 Kn, .slice Av pv cv].toArray = w10 at hRv hbn ⊢
    replace ht := ht.keep hbn
    replace hk := hk.keep hbn
    replace hm := hm.keep hbn
    replace htu := htu.keep hbn
    replace hoku := hoku.keep hbn
    replace hrt := hrt.keep hbn
    replace htv := htv.keep hbn
    replace hokv := hokv.keep hbn
    replace hR := hR.later hbn
    replace hRt := hRt.later hbn
    replace HK := Lib.hid (HK.out.keep hbn)
    replace hB := below_step hB hbn
    clear hbn
    clear hR0
    generalize w9.heap.size = g9 at hRv ⊢
    have hpv2 : pv ≤ 402 := by
      have := termsE_le (K := Kn) (cs := conT us) (key, oth)
      rw [← HCV.out, conT_length, conT_length, HPU.out, HPV.out] at this
      omega
    have HRV : Hid (rightE Kn (conT vs) = true) := by unfold Hid; rw [HCV.out]; exact termsE_right _ HRU.out
    obtain ⟨T, hT⟩ : ∃ T, T = bytesE Kn (conT ts) (key, msg) := ⟨_, rfl⟩
    have HT := Lib.hid hT
    have H8 : Hid (T.length = 8) := by unfold Hid; rw [hT]; exact bytesE_length _ _ _
    have HFU : Hid (∀ tag, fitsE Kn (conT us) (key, msg) tag = decide (T = tag)) := fun tag => by
      rw [hT]
      exact fitsE_made (cs := conT ts) (key, msg) tag HRU.out (.inl HCU.out)
    have HFV : Hid (∀ tag, fitsE Kn (conT vs) (key, msg) tag = decide (T = tag)) := fun tag => by
      rw [hT]
      have hbe := termsE_behind Kn (conT us) (key, oth)
      rw [← HCV.out, HCU.out] at hbe
      exact fitsE_made (cs := conT ts) (key, msg) tag HRV.out hbe
    rw [← hT] at hrt
    clear hT
    have HU1 : Hid (fitsE Kn (conT us) (key, msg) T = true) := by unfold Hid; rw [HFU.out]; exact decide_eq_true rfl
    have HV1 : Hid (fitsE Kn (conT vs) (key, msg) T = true) := by unfold Hid; rw [HFV.out]; exact decide_eq_true rfl
    have HT7 : Hid (decide (T = T.take 7) = false) := by
      unfold Hid
      rw [decide_eq_false_iff_not]
      intro e
      have := congrArg List.length e
      rw [List.length_take, H8.out] at this
      omega
    have HV7 : Hid (fitsE Kn (conT vs) (key, msg) (T.take 7) = false) := by unfold Hid; rw [HFV.out]; exact HT7.out
    clear HT7
    have H7 : Hid ((T.take 7).length = 7) := by unfold Hid; rw [List.length_take, H8.out]; rfl
    have hcut7 : ∀ W, (Instr.slice 25 (.slice tA 8 tc) none (some (.int .i64 7)) none).run Tryd.prog W = .ok (.slice tA 7 tc) W := fun W => run_cut_to 25 5 Tryd.underlying25 size_uint8 tA 8 tc 7 (by omega) W
    have q0 : ∀ W, Below w10.heap.size w10 W → W.cell? ⟨g7, 0, none⟩ = some (.int .i64 Kn) := fun W hW => (hRt.later hW).cell rfl
    have q1 : ∀ W, Below w10.heap.size w10 W → W.cell? ⟨g7, 1, none⟩ = some (.slice Au pu cu) := fun W hW => (hRt.later hW).cell rfl
    have q2 : ∀ W, Below w10.heap.size w10 W → W.cell? ⟨g9, 0, none⟩ = some (.int .i64 Kn) := fun W hW => (hRv.later hW).cell rfl
    have q3 : ∀ W, Below w10.heap.size w10 W → W.cell? ⟨g9, 1, none⟩ = some (.slice Av pv cv) := fun W hW => (hRv.later hW).cell rfl
    have hBase : Below w10.heap.size w10 w10.drew := (Below.refl _ _).drew
    have HX := Lib.hid (conj ht (conj hk (conj hm (conj htu (conj hoku (conj hrt (conj htv (conj hokv hB))))))))
    have HRR1 := Lib.hid hR
    have HRR3 := Lib.hid hRv
    clear ht hk hm htu hoku hrt htv hokv hB hR hRt hRv
    go_wp2_with fail
    refine wp_region_plan (.step 0 false (.step 1 false (.step 2 false (.step 3 false (.step 4 false (.step 5 false (.step 6 false (.step 7 false (.step 8 false (.step 9 true (.step 10 false (.step 11 false (.step 12 false (.step 13 false (.step 14 true (.step 15 false (.step 16 false (.step 17 false (.step 18 false (.step 19 false (.step 20 false (.step 21 false (.step 22 true (.step 23 false (.step 24 false (.step 25 false (.step 26 false (.step 27 false (.step 28 false (.step 29 false (.step 30 true (.step 31 false (.step 32 false (.step 33 false (.step 34 false (.step 35 false (.step 36 false (.step 37 false (.step 38 false (.step 39 true (.step 40 false (.nil)))))))))))))))))))))))))))))))))))))))))) (by kernel_rfl) (by kernel_rfl) (by rfl) (by kernel_rfl) ?_
    iterate 9 (refine plan_read rfl (by rfl) (v := ?_) ?_ ?_; rotate_left 1; (intro W hW; have hW0 := below_step hBase hW; (try dsimp only at hW); go_simp <;> with_reducible rfl); simp only [List.getElem_toArray, List.getElem_cons_zero, List.getElem_cons_succ, Act.put, List.setIfInBounds_toArray, List.set_cons_zero, List.set_cons_succ])
    (refine plan_make rfl (by rfl) (fun K hK => ?_); go_simp; (refine (rightE_any Kn us pu Au cu _ HPU HLU (HX.out.2.2.2.1.keep hBase) (HX.out.2.2.2.2.1.keep hBase) (by omega) hpu).mono ?_; rintro e' w2 ⟨rfl, hbx⟩; rw [HRU.out]); refine hK.out _ _ hbx ?_; clear hK K; replace hBase := below_step hBase hbx)
    iterate 4 (refine plan_read rfl (by rfl) (v := ?_) ?_ ?_; rotate_left 1; (intro W hW; have hW0 := below_step hBase hW; (try dsimp only at hW); go_simp <;> with_reducible rfl); simp only [List.getElem_toArray, List.getElem_cons_zero, List.getElem_cons_succ, Act.put, List.setIfInBounds_toArray, List.set_cons_zero, List.set_cons_succ])
    (refine plan_make rfl (by rfl) (fun K hK => ?_); go_simp; (refine (rightE_any Kn vs pv Av cv _ HPV HLV (HX.out.2.2.2.2.2.2.1.keep hBase) (HX.out.2.2.2.2.2.2.2.1.keep hBase) (by omega) hpv).mono ?_; rintro e' w2 ⟨rfl, hbx⟩; rw [HRV.out]); refine hK.out _ _ hbx ?_; clear hK K; replace hBase := below_step hBase hbx)
    iterate 7 (refine plan_read rfl (by rfl) (v := ?_) ?_ ?_; rotate_left 1; (intro W hW; have hW0 := below_step hBase hW; (try dsimp only at hW); go_simp <;> with_reducible rfl); simp only [List.getElem_toArray, List.getElem_cons_zero, List.getElem_cons_succ, Act.put, List.setIfInBounds_toArray, List.set_cons_zero, List.set_cons_succ])
    (refine plan_make rfl (by rfl) (fun K hK => ?_); go_simp; (refine (fitsE_any Kn us key msg T pu n m 8 Au B C tA cu d e tc _ HPU HLU HN HM H8 (HX.out.2.2.2.1.keep hBase) (HX.out.2.2.2.2.1.keep hBase) (HX.out.2.1.keep hBase) (HX.out.2.2.1.keep hBase) (HX.out.2.2.2.2.2.1.keep hBase) (by omega) hpu (by omega) (by omega) (by omega) hnd hme htc (Lib.hid (HK.out.keep hBase))).mono ?_; rintro e' w2 ⟨rfl, hbx⟩; rw [HU1.out]); refine hK.out _ _ hbx ?_; clear hK K; replace hBase := below_step hBase hbx)
    iterate 7 (refine plan_read rfl (by rfl) (v := ?_) ?_ ?_; rotate_left 1; (intro W hW; have hW0 := below_step hBase hW; (try dsimp only at hW); go_simp <;> with_reducible rfl); simp only [List.getElem_toArray, List.getElem_cons_zero, List.getElem_cons_succ, Act.put, List.setIfInBounds_toArray, List.set_cons_zero, List.set_cons_succ])
    (refine plan_make rfl (by rfl) (fun K hK => ?_); go_simp; (refine (fitsE_any Kn vs key msg T pv n m 8 Av B C tA cv d e tc _ HPV HLV HN HM H8 (HX.out.2.2.2.2.2.2.1.keep hBase) (HX.out.2.2.2.2.2.2.2.1.keep hBase) (HX.out.2.1.keep hBase) (HX.out.2.2.1.keep hBase) (HX.out.2.2.2.2.2.1.keep hBase) (by omega) hpv (by omega) (by omega) (by omega) hnd hme htc (Lib.hid (HK.out.keep hBase))).mono ?_; rintro e' w2 ⟨rfl, hbx⟩; rw [HV1.out]); refine hK.out _ _ hbx ?_; clear hK K; replace hBase := below_step hBase hbx)
    iterate 8 (refine plan_read rfl (by rfl) (v := ?_) ?_ ?_; rotate_left 1; (intro W hW; have hW0 := below_step hBase hW; (try dsimp only at hW); go_simp <;> with_reducible rfl); simp only [List.getElem_toArray, List.getElem_cons_zero, List.getElem_cons_succ, Act.put, List.setIfInBounds_toArray, List.set_cons_zero, List.set_cons_succ])
    (refine plan_make rfl (by rfl) (fun K hK => ?_); go_simp; (refine (fitsE_any Kn vs key msg (T.take 7) pv n m 7 Av B C tA cv d e tc _ HPV HLV HN HM H7 (HX.out.2.2.2.2.2.2.1.keep hBase) (HX.out.2.2.2.2.2.2.2.1.keep hBase) (HX.out.2.1.keep hBase) (HX.out.2.2.1.keep hBase) ((HX.out.2.2.2.2.2.1.keep hBase).take 7) (by omega) hpv (by omega) (by omega) (by omega) hnd hme (by omega) (Lib.hid (HK.out.keep hBase))).mono ?_; rintro e' w2 ⟨rfl, hbx⟩; rw [HV7.out]); refine hK.out _ _ hbx ?_; clear hK K; replace hBase := below_step hBase hbx)
    iterate 1 (refine plan_read rfl (by rfl) (v := ?_) ?_ ?_; rotate_left 1; (intro W hW; have hW0 := below_step hBase hW; (try dsimp only at hW); go_simp <;> with_reducible rfl); simp only [List.getElem_toArray, List.getElem_cons_zero, List.getElem_cons_succ, Act.put, List.setIfInBounds_toArray, List.set_cons_zero, List.set_cons_succ])
    refine plan_done ?_
    clear q0 q1 q2 q3 hcut7 HU1 HV1 HV7 HFU H7
    have HX2 := Lib.hid (conj (HX.out.2.1.keep hBase) (conj (HX.out.2.2.1.keep hBase) (conj (HX.out.2.2.2.2.2.1.keep hBase) (conj (HX.out.2.2.2.2.2.2.1.keep hBase) (conj (HX.out.2.2.2.2.2.2.2.1.keep hBase) (below_step HX.out.2.2.2.2.2.2.2.2 hBase))))))
    have hR := HRR1.out.later hBase
    have hRv := HRR3.out.later hBase
    replace HK := Lib.hid (HK.out.keep hBase)
    clear HX HRR1 HRR3 hBase
    obtain ⟨hk, hm, hrt, htv, hokv, hB⟩ := HX2.out
    clear HX2
    go_upto_region 11 with fail
    obtain ⟨wb, hwb⟩ : ∃ W, W = w2 := ⟨_, rfl⟩
    have hown0 : (w2.alloc (.cells #[] 5)).ownsRow w2.heap.size 5 1 (.slice (some ⟨w2.heap.size, 0, none⟩) 0 0) 0 [] := World.ownsRow_made w2 #[] 0 (Nat.le_refl _) (by unfold maxLen; omega) rfl
    have hN0 := below_new (Below.refl _ w2) (.cells #[] 5)
    have hrt0 := hrt.keep hN0
    clear hwb
    go_upto_region 12 with (at_builtin; refine wpList_append_rd _ rfl (.tmp 108) (.tmp 109) 25 rfl w2.heap.size 5 i0 (.int .u8 0) 1 Tryd.underlying25 hi hz0 hz1 hz2 rfl _ _ _ rfl hown0 tA T tc (by rw [H8.out]; rfl) hrt0 vB_one (by rw [H8.out]; unfold maxLen; omega) (by rw [H8.out]; omega) (by simp) ?_; intro v3 w3 hown hgrow)
    rw [Nat.zero_add, List.nil_append] at hown
    have hb3 : Below w2.heap.size w2 w3 := hN0.grown hgrow (by simp) (fun k hk => (hown0.lt k hk).1)
    clear hown0 hN0 hrt0 hgrow
    have hq8 : (at0 % 8) < T.length := by rw [H8.out]; omega
    obtain ⟨gx, cx, rfl, hgx, hgl, hcx, hcell, hfz, hset⟩ := own_set hown hq8
    clear hown
    have hTI := turned_is T (at0 % 8) hq8 y
    have hxr := u8_xor_b T[(at0 % 8)] y
    generalize T[(at0 % 8)] = tq at hcell hTI hxr
    have hsz := hset (xorB tq y)
    clear hset
    obtain ⟨z, hzz⟩ : ∃ z, z = xorB tq y := ⟨_, rfl⟩
    rw [← hzz] at hTI hxr hsz
    clear hzz
    rw [H8.out] at hcx ⊢
    have hi8 : at0 % 8 < 8 := by omega
    have hi9 : (at0 : Int) % 8 < 8 := by omega
    have hi7 : (0 : Int) ≤ (at0 : Int) % 8 := by omega
    unfold vB at hcell
    have hB4 : Below w2.heap.size w2 (w3.setCell ⟨gx, (at0 % 8), none⟩ (.int .u8 (z.toNat : Int))) := hb3.setCell hgx _
    have hat2 : (at0 : Int) < 256 := by omega
    have hat3 : (0 : Int) ≤ (at0 : Int) := by omega
    go_upto_region 13 with fail
    have hsz' : Rd vB (w3.setCell ⟨gx, (at0 % 8), none⟩ (.int .u8 (z.toNat : Int))) (some ⟨gx, 0, none⟩) (T.set (at0 % 8) z) := hsz
    clear hsz hcell hfz hb3
    generalize w3.setCell ⟨gx, (at0 % 8), none⟩ (.int .u8 (z.toNat : Int)) = w4 at hsz' hB4 ⊢
    replace hk := hk.keep hB4
    replace hm := hm.keep hB4
    replace hrt := hrt.keep hB4
    replace htv := htv.keep hB4
    replace hokv := hokv.keep hB4
    replace hR := hR.later hB4
    replace hRv := hRv.later hB4
    replace HK := Lib.hid (HK.out.keep hB4)
    replace hB := below_step hB hB4
    clear hB4 hgx hgl
    have HZ8 : Hid ((T.set (at0 % 8) z).length = 8) := by unfold Hid; rw [List.length_set]; exact H8.out
    have HFZ : Hid (fitsE Kn (conT vs) (key, msg) (T.set (at0 % 8) z) = decide (y = 0)) := by unfold Hid; rw [HFV.out]; exact hTI
    have hy0 : ((y.toNat : Int) == 0) = decide (y = 0) := by
      by_cases h : y = 0
      · subst h; rfl
      · have : y.toNat ≠ 0 := fun e => h (UInt8.toNat_inj.1 e)
        simp [h]
        omega
    generalize decide (y = 0) = yb at hy0 HFZ
    have p0 : ∀ W, Below w4.heap.size w4 W → W.cell? ⟨g0, 0, none⟩ = some (.int .i64 Kn) := fun W hW => (hR.later hW).cell rfl
    have p2 : ∀ W, Below w4.heap.size w4 W → W.cell? ⟨g9, 0, none⟩ = some (.int .i64 Kn) := fun W hW => (hRv.later hW).cell rfl
    have p3 : ∀ W, Below w4.heap.size w4 W → W.cell? ⟨g9, 1, none⟩ = some (.slice Av pv cv) := fun W hW => (hRv.later hW).cell rfl
    have hs1 : ∀ W, Below w4.heap.size w4 W → (convert 25 9 (.slice tA 8 tc)).run Tryd.prog W = .ok (.string (strL T)) W := fun W hW => run_str W _ _ _ Tryd.underlying25 Tryd.underlying5 Tryd.underlying9 tA T 8 tc H8.out (hrt.keep hW)
    have hBase : Below w4.heap.size w4 w4.drew := (Below.refl _ _).drew
    have HX := Lib.hid (conj hk (conj hm (conj hrt (conj htv (conj hokv (conj hsz' hB))))))
    clear hk hm hrt htv hokv hsz' hB hR hRv hTI hxr hat2 hat3 HFV
    rcases rightE_cases HRR.out with ⟨rfl, _⟩ | ⟨rfl, _⟩
    · have HTM : Hid (T = (macL key msg).take 8) := by unfold Hid; rw [HT.out, bytesE, if_neg (by decide)]
      have HM32 : Hid ((macL key msg).length = 32) := macL_length key msg
      go_wp2_with fail
      refine wp_region_plan (.step 0 false (.step 1 false (.step 2 false (.step 3 false (.step 5 false (.step 6 false (.step 4 true (.step 7 false (.step 8 false (.step 9 false (.step 10 false (.step 11 false (.step 12 false (.step 13 false (.step 14 false (.step 15 false (.step 16 false (.step 17 true (.step 18 false (.step 19 false (.step 20 false (.step 21 false (.step 22 false (.step 23 false (.nil))))))))))))))))))))))))) (by kernel_rfl) (by kernel_rfl) (by rfl) (by kernel_rfl) ?_
      iterate 6 (refine plan_read rfl (by rfl) (v := ?_) ?_ ?_; rotate_left 1; (intro W hW; have hW0 := below_step hBase hW; (try dsimp only at hW); go_simp <;> with_reducible rfl); simp only [List.getElem_toArray, List.getElem_cons_zero, List.getElem_cons_succ, Act.put, List.setIfInBounds_toArray, List.set_cons_zero, List.set_cons_succ])
      (refine plan_make rfl (by rfl) (fun K hK => ?_); go_simp; (refine (fitsE_any 1 vs key msg (T.set (at0 % 8) z) pv n m 8 Av B C (some ⟨gx, 0, none⟩) cv d e cx _ HPV HLV HN HM HZ8 (HX.out.2.2.2.1.keep hBase) (HX.out.2.2.2.2.1.keep hBase) (HX.out.1.keep hBase) (HX.out.2.1.keep hBase) (HX.out.2.2.2.2.2.1.keep hBase) (by omega) hpv (by omega) (by omega) (by omega) hnd hme hcx (Lib.hid (HK.out.keep hBase))).mono ?_; rintro e' w2 ⟨rfl, hbx⟩; rw [HFZ.out]); refine hK.out _ _ hbx ?_; clear hK K; replace hBase := below_step hBase hbx)
      iterate 10 (refine plan_read rfl (by rfl) (v := ?_) ?_ ?_; rotate_left 1; (intro W hW; have hW0 := below_step hBase hW; (try dsimp only at hW); go_simp <;> with_reducible rfl); simp only [List.getElem_toArray, List.getElem_cons_zero, List.getElem_cons_succ, Act.put, List.setIfInBounds_toArray, List.set_cons_zero, List.set_cons_succ])
      (refine plan_make rfl (by rfl) (fun K hK => ?_); go_simp; (refine (mac_any n m key msg B C d e _ HN HM (HX.out.1.keep hBase) (HX.out.2.1.keep hBase) hnd (by omega) (by omega) (Lib.hid (HK.out.keep hBase))).mono ?_; rintro e' w2 ⟨A5, c5, rfl, hc5, hr5, hbx⟩); refine hK.out _ _ hbx ?_; clear hK K; replace hBase := below_step hBase hbx)
      have hcut8 : ∀ W, (Instr.slice 25 (.slice A5 32 c5) none (some (.int .i64 8)) none).run Tryd.prog W = .ok (.slice A5 8 c5) W := fun W => run_cut_to 25 5 Tryd.underlying25 size_uint8 A5 32 c5 8 (by omega) W
      have hs2 : ∀ W, Below w2.heap.size w2 W → (convert 25 9 (.slice A5 8 c5)).run Tryd.prog W = .ok (.string (strL T)) W := fun W hW => run_str W _ _ _ Tryd.underlying25 Tryd.underlying5 Tryd.underlying9 A5 T 8 c5 H8.out (by rw [HTM.out]; exact (hr5.keep hW).take 8)
      iterate 6 (refine plan_read rfl (by rfl) (v := ?_) ?_ ?_; rotate_left 1; (intro W hW; have hW0 := below_step hBase hW; (try dsimp only at hW); go_simp <;> with_reducible rfl); simp only [List.getElem_toArray, List.getElem_cons_zero, List.getElem_cons_succ, Act.put, List.setIfInBounds_toArray, List.set_cons_zero, List.set_cons_succ])
      refine plan_done ?_
      clear p0 p2 p3 hs1 hs2 hcut8
      go_wp2_with fail
      go_ret
      exact ⟨rfl, below_step HX.out.2.2.2.2.2.2 hBase⟩
    · go_wp2_with fail
      refine wp_region_plan (.step 0 false (.step 1 false (.step 2 false (.step 3 false (.step 5 false (.step 6 false (.step 4 true (.step 7 false (.step 8 false (.step 9 false (.step 10 false (.step 11 false (.step 12 false (.step 13 false (.step 14 false (.step 15 false (.step 16 false (.step 17 true (.step 18 false (.step 19 false (.step 20 false (.step 21 false (.step 22 false (.step 23 false (.nil))))))))))))))))))))))))) (by kernel_rfl) (by kernel_rfl) (by rfl) (by kernel_rfl) ?_
      iterate 6 (refine plan_read rfl (by rfl) (v := ?_) ?_ ?_; rotate_left 1; (intro W hW; have hW0 := below_step hBase hW; (try dsimp only at hW); go_simp <;> with_reducible rfl); simp only [List.getElem_toArray, List.getElem_cons_zero, List.getElem_cons_succ, Act.put, List.setIfInBounds_toArray, List.set_cons_zero, List.set_cons_succ])
      (refine plan_make rfl (by rfl) (fun K hK => ?_); go_simp; (refine (fitsE_any 2 vs key msg (T.set (at0 % 8) z) pv n m 8 Av B C (some ⟨gx, 0, none⟩) cv d e cx _ HPV HLV HN HM HZ8 (HX.out.2.2.2.1.keep hBase) (HX.out.2.2.2.2.1.keep hBase) (HX.out.1.keep hBase) (HX.out.2.1.keep hBase) (HX.out.2.2.2.2.2.1.keep hBase) (by omega) hpv (by omega) (by omega) (by omega) hnd hme hcx (Lib.hid (HK.out.keep hBase))).mono ?_; rintro e' w2 ⟨rfl, hbx⟩; rw [HFZ.out]); refine hK.out _ _ hbx ?_; clear hK K; replace hBase := below_step hBase hbx)
      iterate 6 (refine plan_read rfl (by rfl) (v := ?_) ?_ ?_; rotate_left 1; (intro W hW; have hW0 := below_step hBase hW; (try dsimp only at hW); go_simp <;> with_reducible rfl); simp only [List.getElem_toArray, List.getElem_cons_zero, List.getElem_cons_succ, Act.put, List.setIfInBounds_toArray, List.set_cons_zero, List.set_cons_succ])
      iterate 8 (refine plan_skip rfl (by rfl) ?_; simp only [List.getElem_toArray, List.getElem_cons_zero, List.getElem_cons_succ, Act.put, List.setIfInBounds_toArray, List.set_cons_zero, List.set_cons_succ])
      iterate 3 (refine plan_read rfl (by rfl) (v := ?_) ?_ ?_; rotate_left 1; (intro W hW; have hW0 := below_step hBase hW; (try dsimp only at hW); go_simp <;> with_reducible rfl); simp only [List.getElem_toArray, List.getElem_cons_zero, List.getElem_cons_succ, Act.put, List.setIfInBounds_toArray, List.set_cons_zero, List.set_cons_succ])
      refine plan_done ?_
      clear p0 p2 p3 hs1
      go_wp2_with fail
      go_ret
      exact ⟨rfl, below_step HX.out.2.2.2.2.2.2 hBase⟩
end Go.Proofs.YtcejbofdgljemaaDoor
/-
  What comes in, opened by its type's shape (no program is named here): numbers, slices of whatever, arrays, structs. No conditions but those typed.
-/
namespace Go.Proofs.YtcejbofdgljemaaDoor
set_option maxRecDepth 100000
open Go.RowKit Go.Deep Go.WideShapes Go.ChangeShapes

/-- Cells of type t that can be read as data are a reading R of something. -/
def Opens (P : Program) (t : TypeId) {α : Type} (R : World → List Value → α → Prop) : Prop :=
  ∀ {H : Type} (enc : TypeId × Value → H) (w : World) (base : Nat) (spare : Nat → Bool) (held : Bool) (fuel : Nat) (cs : List Value) (x : DataW H × List MemPlace), DataW.trod enc P w base spare held fuel t cs = some x → ∃ a : α, R w cs a

def RByte : World → List Value → UInt8 → Prop := fun _ cs c => cs = [vB c]
def RWord : World → List Value → UInt32 → Prop := fun _ cs c => cs = [vW c]
def RNum : World → List Value → Nat → Prop := fun _ cs v => cs = [.int .u64 (v : Int)] ∧ v < 18446744073709551616
def RInt : World → List Value → Int → Prop := fun _ cs n => cs = [.int .i64 n] ∧ -9223372036854775808 ≤ n ∧ n ≤ 9223372036854775807
def RBool : World → List Value → Bool → Prop := fun _ cs b => cs = [.bool b]

section
variable {P : Program} {t e : TypeId}
theorem opens_byte (ht : P.underlying t = some (.int .u8)) : Opens P t RByte := fun enc w base spare held fuel cs x h => by
  obtain ⟨n, rfl, _, hw⟩ := DataW.trod_int ht h
  simp [Lit.wf, IntKind.min, IntKind.max, IntKind.signed, IntKind.bits] at hw
  refine ⟨UInt8.ofNat n.toNat, ?_⟩
  unfold RByte vB
  rw [UInt8.toNat_ofNat']
  congr 2
  omega
theorem opens_word (ht : P.underlying t = some (.int .u32)) : Opens P t RWord := fun enc w base spare held fuel cs x h => by
  obtain ⟨n, rfl, _, hw⟩ := DataW.trod_int ht h
  simp [Lit.wf, IntKind.min, IntKind.max, IntKind.signed, IntKind.bits] at hw
  refine ⟨UInt32.ofNat n.toNat, ?_⟩
  unfold RWord vW
  rw [UInt32.toNat_ofNat']
  congr 2
  omega
theorem opens_num (ht : P.underlying t = some (.int .u64)) : Opens P t RNum := fun enc w base spare held fuel cs x h => by
  obtain ⟨n, rfl, _, hw⟩ := DataW.trod_int ht h
  obtain ⟨v, hv, rfl⟩ := u64_of_wf hw
  exact ⟨v, rfl, hv⟩
theorem opens_int (ht : P.underlying t = some (.int .i64)) : Opens P t RInt := fun enc w base spare held fuel cs x h => by
  obtain ⟨n, rfl, _, hw⟩ := DataW.trod_int ht h
  exact ⟨n, rfl, i64_of_wf hw⟩

/-- A slice: its elements, of m cells each, lie one behind the other. -/
def RSlice (m : Nat) {α : Type} (R : World → List Value → α → Prop) : World → List Value → List α → Prop := fun w cs l =>
  ∃ (A : Option Addr) (cap : Nat), cs = [.slice A l.length cap] ∧ l.length ≤ cap ∧ cap ≤ 9223372036854775807 ∧
    (l ≠ [] → ∃ b o, A = some ⟨b, o, none⟩ ∧ ∀ i (h : i < l.length), ∃ ecs : List Value, ecs.length = m ∧ (∀ j (hj : j < ecs.length), w.cell? ⟨b, o + i * m + j, none⟩ = some ecs[j]) ∧ R w ecs l[i])

theorem cells_at {w : World} {base : Nat} {a : Addr} {n : Nat} {cs : List Value} (h : w.cells? base a n = some cs) : cs.length = n ∧ ∀ j (hj : j < cs.length), w.cell? (a.add j) = some cs[j] := by
  obtain ⟨_, hl, hc⟩ := World.cells?_some h
  refine ⟨hl, fun j hj => ?_⟩
  have := hc j (by omega)
  rw [this]
  exact List.getElem?_eq_getElem hj

theorem choose_list {α : Type} (n : Nat) (p : Nat → α → Prop) (h : ∀ i, i < n → ∃ a, p i a) : ∃ l : List α, l.length = n ∧ ∀ i (hi : i < l.length), p i l[i] := by
  induction n with
  | zero => exact ⟨[], rfl, fun i hi => by simp at hi⟩
  | succ n ih =>
    obtain ⟨l, hl, hp⟩ := ih (fun i hi => h i (by omega))
    obtain ⟨a, ha⟩ := h n (by omega)
    refine ⟨l ++ [a], by simp [hl], fun i hi => ?_⟩
    by_cases hin : i < l.length
    · rw [List.getElem_append_left hin]; exact hp i hin
    · have : i = n := by simp at hi; omega
      subst this
      rw [List.getElem_append_right (by omega)]
      simpa [hl] using ha

theorem opens_slice {α : Type} {R : World → List Value → α → Prop} {m : Nat} (ht : P.underlying t = some (.slice e)) (hc : P.cellsOf e = m) (hm : 0 < m) (he : Opens P e R) : Opens P t (RSlice m R) := fun enc w base spare held fuel cs x h => by
  rcases open_slice ht h with ⟨rfl, _⟩ | ⟨a, len, cap, mm, n, D, Pl, rfl, hb, hl, hcap, hmm, rfl, hx⟩
  · exact ⟨[], none, 0, rfl, Nat.le_refl _, by omega, fun h => absurd rfl h⟩
  · have hlm : len ≤ mm := by rw [hmm]; split <;> omega
    unfold maxLen at hcap
    obtain ⟨l, hll, hp⟩ := choose_list len (fun i (y : α) => ∃ ecs : List Value, ecs.length = m ∧ (∀ j (hj : j < ecs.length), w.cell? ((a.add (i * m)).add j) = some ecs[j]) ∧ R w ecs y) (fun i hi => by
      obtain ⟨ecs, h1, h2⟩ := hx i (by omega)
      rw [hc] at h1
      obtain ⟨h3, h4⟩ := cells_at h1
      obtain ⟨y, hy⟩ := he enc w base spare held n ecs _ h2
      exact ⟨y, ecs, h3, h4, hy⟩)
    refine ⟨l, some a, cap, by rw [hll], by omega, by omega, fun hn => ?_⟩
    have h0 : 0 < l.length := by
      rcases Nat.eq_zero_or_pos l.length with h | h
      · exact absurd (List.eq_nil_of_length_eq_zero h) hn
      · exact h
    obtain ⟨b, o, spot⟩ := a
    obtain ⟨ecs, h3, h4, _⟩ := hp 0 h0
    have hc0 := h4 0 (by omega)
    have hspot : spot = none := by simpa [Addr.add] using World.cell?_spot hc0
    subst hspot
    have hadd : ∀ i j, ((⟨b, o, none⟩ : Addr).add i).add j = ⟨b, o + i + j, none⟩ := fun i j => by unfold Addr.add; split <;> split <;> simp_all
    refine ⟨b, o, rfl, fun i hi => ?_⟩
    obtain ⟨ecs, h3, h4, h5⟩ := hp i hi
    exact ⟨ecs, h3, fun j hj => by rw [← hadd]; exact h4 j hj, h5⟩

/-- An array: its elements' cells one behind the other (elements of one cell). -/
def RArr (n : Nat) {α : Type} (R : World → List Value → α → Prop) : World → List Value → List α → Prop := fun w cs l => l.length = n ∧ cs.length = n ∧ ∀ i (h : i < l.length), R w ((cs.drop i).take 1) l[i]
theorem opens_arr {α : Type} {R : World → List Value → α → Prop} {n : Nat} (ht : P.underlying t = some (.array n e)) (hc : P.cellsOf e = 1) (hn : P.cellsOf t = n) (he : Opens P e R) : Opens P t (RArr n R) := fun enc w base spare held fuel cs x h => by
  obtain ⟨xs, m, _, _, hl, hxl, hx⟩ := DataW.trod_array ht h
  obtain ⟨l, hll, hp⟩ := choose_list n (fun i (y : α) => R w ((cs.drop i).take 1) y) (fun i hi => by
    have := hx i hi
    rw [hc, Nat.mul_one, List.getElem?_eq_getElem (by omega)] at this
    exact he enc w base spare held m _ _ this)
  exact ⟨l, hll, by omega, hp⟩

/-- Structs of two to four fields: each field's cells. -/
def RTwo (a0 n0 a1 n1 : Nat) {α β : Type} (R : World → List Value → α → Prop) (S : World → List Value → β → Prop) : World → List Value → α × β → Prop := fun w cs x => cs.length = n0 + n1 ∧ R w ((cs.drop a0).take n0) x.1 ∧ S w ((cs.drop a1).take n1) x.2
def RThree (a0 n0 a1 n1 a2 n2 : Nat) {α β γ : Type} (R : World → List Value → α → Prop) (S : World → List Value → β → Prop) (T : World → List Value → γ → Prop) : World → List Value → α × β × γ → Prop := fun w cs x => cs.length = n0 + n1 + n2 ∧ R w ((cs.drop a0).take n0) x.1 ∧ S w ((cs.drop a1).take n1) x.2.1 ∧ T w ((cs.drop a2).take n2) x.2.2
theorem opens_two {α β : Type} {R : World → List Value → α → Prop} {S : World → List Value → β → Prop} {f0 f1 : Field} {a0 n0 a1 n1 : Nat} (ht : P.underlying t = some (.struct #[f0, f1])) (e0 : f0.offset = a0) (e1 : f1.offset = a1) (c0 : P.cellsOf f0.type = n0) (c1 : P.cellsOf f1.type = n1) (hn : P.cellsOf t = n0 + n1)
    (h0 : Opens P f0.type R) (h1 : Opens P f1.type S) : Opens P t (RTwo a0 n0 a1 n1 R S) := fun enc w base spare held fuel cs x h => by
  obtain ⟨xs, n, _, _, hl, hxl, hx⟩ := DataW.trod_struct ht h
  have k0 := hx 0 f0 rfl
  have k1 := hx 1 f1 rfl
  simp only [List.size_toArray, List.length_cons, List.length_nil, Nat.zero_add, Nat.reduceAdd] at hxl
  rw [List.getElem?_eq_getElem (by omega), e0, c0] at k0
  rw [List.getElem?_eq_getElem (by omega), e1, c1] at k1
  obtain ⟨x0, r0⟩ := h0 enc w base spare held n _ _ k0
  obtain ⟨x1, r1⟩ := h1 enc w base spare held n _ _ k1
  exact ⟨(x0, x1), by omega, r0, r1⟩
theorem opens_three {α β γ : Type} {R : World → List Value → α → Prop} {S : World → List Value → β → Prop} {T : World → List Value → γ → Prop} {f0 f1 f2 : Field} {a0 n0 a1 n1 a2 n2 : Nat} (ht : P.underlying t = some (.struct #[f0, f1, f2])) (e0 : f0.offset = a0) (e1 : f1.offset = a1) (e2 : f2.offset = a2)
    (c0 : P.cellsOf f0.type = n0) (c1 : P.cellsOf f1.type = n1) (c2 : P.cellsOf f2.type = n2) (hn : P.cellsOf t = n0 + n1 + n2) (h0 : Opens P f0.type R) (h1 : Opens P f1.type S) (h2 : Opens P f2.type T) : Opens P t (RThree a0 n0 a1 n1 a2 n2 R S T) := fun enc w base spare held fuel cs x h => by
  obtain ⟨xs, n, _, _, hl, hxl, hx⟩ := DataW.trod_struct ht h
  have k0 := hx 0 f0 rfl
  have k1 := hx 1 f1 rfl
  have k2 := hx 2 f2 rfl
  simp only [List.size_toArray, List.length_cons, List.length_nil, Nat.zero_add, Nat.reduceAdd] at hxl
  rw [List.getElem?_eq_getElem (by omega), e0, c0] at k0
  rw [List.getElem?_eq_getElem (by omega), e1, c1] at k1
  rw [List.getElem?_eq_getElem (by omega), e2, c2] at k2
  obtain ⟨x0, r0⟩ := h0 enc w base spare held n _ _ k0
  obtain ⟨x1, r1⟩ := h1 enc w base spare held n _ _ k1
  obtain ⟨x2, r2⟩ := h2 enc w base spare held n _ _ k2
  exact ⟨(x0, x1, x2), by omega, r0, r1, r2⟩
end

/-! ### Back to the words that the walks go by -/
theorem rd_of_rslice {α : Type} {f : α → Value} {R : World → List Value → α → Prop} {w : World} {cs : List Value} {l : List α} (hR : ∀ ecs x, R w ecs x → ecs = [f x]) (h : RSlice 1 R w cs l) : ∃ A cap, cs = [.slice A l.length cap] ∧ l.length ≤ cap ∧ cap ≤ 9223372036854775807 ∧ Rd f w A l := by
  obtain ⟨A, cap, e, h1, h2, h3⟩ := h
  refine ⟨A, cap, e, h1, h2, fun hn => ?_⟩
  obtain ⟨b, o, rfl, hc⟩ := h3 hn
  refine ⟨b, o, rfl, fun i hi => ?_⟩
  obtain ⟨ecs, _, h5, h6⟩ := hc i hi
  have := hR _ _ h6
  subst this
  have := h5 0 (by simp)
  simpa using this
theorem bytes_of_r {w : World} {cs : List Value} {l : List UInt8} (h : RSlice 1 RByte w cs l) : ∃ A cap, cs = [.slice A l.length cap] ∧ l.length ≤ cap ∧ cap ≤ 9223372036854775807 ∧ Rd vB w A l := rd_of_rslice (fun _ _ h => h) h
theorem words_of_r {w : World} {cs : List Value} {l : List UInt32} (h : RSlice 1 RWord w cs l) : ∃ A cap, cs = [.slice A l.length cap] ∧ l.length ≤ cap ∧ cap ≤ 9223372036854775807 ∧ Rd vW w A l := rd_of_rslice (fun _ _ h => h) h
theorem arr_words {n : Nat} {w : World} {cs : List Value} {l : List UInt32} (h : RArr n RWord w cs l) : cs = l.map vW ∧ l.length = n := by
  obtain ⟨h1, h2, h3⟩ := h
  refine ⟨?_, h1⟩
  apply List.ext_getElem
  · simp; omega
  · intro i hi hi'
    have := h3 i (by omega)
    unfold RWord at this
    have h4 := congrArg (fun l => l[0]?) this
    simp only [List.getElem?_take, List.getElem?_drop, Nat.add_zero, List.getElem?_eq_getElem hi, Nat.zero_lt_one, if_true, List.getElem?_cons_zero, Option.some.injEq] at h4
    rw [h4]
    simp

/-! ### A value and its cells -/
theorem okWide_arr {P : Program} {w : World} {r : Reach} {base n : Nat} {t e : TypeId} {v : Value} (ht : P.underlying t = some (.array n e)) (h : Value.okWide P w r base t v) : ∃ cs, v = .agg cs ∧ cs.size = P.cellsOf t := by
  simp only [Value.okWide, ht] at h
  obtain ⟨cs, h1, h2, _⟩ := h
  exact ⟨cs, h1, h2⟩

end Go.Proofs.YtcejbofdgljemaaDoor
/-
  A parameter that is a slice of bytes, opened. No conditions.
-/
namespace Go.Proofs.YtcejbofdgljemaaDoor
set_option maxRecDepth 100000
open Go.RowKit Go.WideShapes
set_option linter.unusedSimpArgs false
set_option linter.unusedVariables false

theorem opens_bytes : Opens Tryd.prog 25 (RSlice 1 RByte) := opens_slice Tryd.underlying25 (by kernel_rfl) (by omega) (opens_byte Tryd.underlying5)
section
variable {H : Type} {enc : TypeId × Value → H} {W : World} {base b1 : Nat} {spare : Nat → Bool} {held : Bool} {r : Reach} {v : Value} {d : DataW H} {p : List MemPlace}
theorem open_bytes (hv : Value.okWide Tryd.prog W r base 25 v) (ht : DataW.Trod enc Tryd.prog W b1 spare held 25 v d p) : ∃ (l : List UInt8) (A : Option Addr) (cap : Nat), v = .slice A l.length cap ∧ l.length ≤ cap ∧ cap ≤ 9223372036854775807 ∧ Rd vB W A l := by
  obtain ⟨a, len, cap, rfl⟩ := okWide_slice Tryd.underlying25 hv
  obtain ⟨fuel, hf⟩ := ht
  obtain ⟨l, hl⟩ := opens_bytes enc W _ _ _ _ _ _ hf
  obtain ⟨A, c, e, h1, h2, h3⟩ := bytes_of_r hl
  simp [Value.cells] at e
  obtain ⟨rfl, rfl, rfl⟩ := e
  exact ⟨l, _, _, rfl, h1, h2, h3⟩
end
end Go.Proofs.YtcejbofdgljemaaDoor
/-
  A parameter that is a list of terms, opened. No conditions.
-/
namespace Go.Proofs.YtcejbofdgljemaaDoor
set_option maxRecDepth 100000
open Go.RowKit Go.WideShapes
set_option linter.unusedSimpArgs false
set_option linter.unusedVariables false

/-- What comes in: terms in memory, whose bytes are there, no longer than may be. -/
def inT (w : World) (A : Option Addr) (ts : List TD) : Prop := RdT w A ts ∧ okT w ts ∧ ∀ x ∈ ts, x.k.length ≤ 9223372036854775807 ∧ x.m.length ≤ 9223372036854775807
theorem inT.keep {w w' : World} {A : Option Addr} {ts : List TD} (h : inT w A ts) (hb : Below w.heap.size w w') : inT w' A ts := ⟨h.1.keep hb, h.2.1.keep hb, h.2.2⟩

theorem opens_term : Opens Tryd.prog 47 (RTwo 0 1 1 1 (RSlice 1 RByte) (RSlice 1 RByte)) := opens_two Tryd.underlying47 rfl rfl (by kernel_rfl) (by kernel_rfl) (by kernel_rfl) opens_bytes opens_bytes
theorem opens_terms : Opens Tryd.prog 22 (RSlice 2 (RTwo 0 1 1 1 (RSlice 1 RByte) (RSlice 1 RByte))) := opens_slice Tryd.underlying22 (by kernel_rfl) (by omega) opens_term

theorem term_of_r {w : World} {cs : List Value} {x : Tm} (h : RTwo 0 1 1 1 (RSlice 1 RByte) (RSlice 1 RByte) w cs x) : ∃ t : TD, cs = [t.at0, t.at1] ∧ t.ok w ∧ t.k.length ≤ 9223372036854775807 ∧ t.m.length ≤ 9223372036854775807 := by
  obtain ⟨hl, h0, h1⟩ := h
  obtain ⟨A, c, e0, h2, h3, h4⟩ := bytes_of_r h0
  obtain ⟨B, d, e1, h5, h6, h7⟩ := bytes_of_r h1
  refine ⟨⟨A, c, x.1, B, d, x.2⟩, ?_, ⟨h2, h5, h4, h7⟩, by show x.1.length ≤ _; omega, by show x.2.length ≤ _; omega⟩
  match cs, hl with
  | [a, b], _ =>
    simp at e0 e1
    rw [e0, e1]
    rfl
theorem terms_of_r {w : World} {cs : List Value} {ls : List Tm} (h : RSlice 2 (RTwo 0 1 1 1 (RSlice 1 RByte) (RSlice 1 RByte)) w cs ls) : ∃ (ts : List TD) (A : Option Addr) (cap : Nat), cs = [.slice A ts.length cap] ∧ ts.length ≤ cap ∧ cap ≤ 9223372036854775807 ∧ inT w A ts := by
  obtain ⟨A, cap, e, h1, h2, h3⟩ := h
  by_cases hn : ls = []
  · subst hn
    exact ⟨[], A, cap, e, h1, h2, RdT.nil, (fun x hx => by cases hx), fun x hx => by cases hx⟩
  · obtain ⟨b, o, rfl, hc⟩ := h3 hn
    obtain ⟨ts, hl, hp⟩ := choose_list ls.length (fun i (t : TD) => (w.cell? ⟨b, o + i * 2, none⟩ = some t.at0 ∧ w.cell? ⟨b, o + i * 2 + 1, none⟩ = some t.at1) ∧ t.ok w ∧ t.k.length ≤ 9223372036854775807 ∧ t.m.length ≤ 9223372036854775807) (fun i hi => by
      obtain ⟨ecs, h4, h5, h6⟩ := hc i hi
      obtain ⟨t, rfl, h7, h8, h9⟩ := term_of_r h6
      exact ⟨t, ⟨h5 0 (by simp), h5 1 (by simp)⟩, h7, h8, h9⟩)
    refine ⟨ts, some ⟨b, o, none⟩, cap, by rw [hl]; exact e, by omega, h2, fun _ => ⟨b, o, rfl, fun i hi => (hp i hi).1⟩, fun x hx => ?_, fun x hx => ?_⟩
    · obtain ⟨i, hi, rfl⟩ := List.getElem_of_mem hx
      exact (hp i hi).2.1
    · obtain ⟨i, hi, rfl⟩ := List.getElem_of_mem hx
      exact (hp i hi).2.2

section
variable {H : Type} {enc : TypeId × Value → H} {W : World} {base b1 : Nat} {spare : Nat → Bool} {held : Bool} {r : Reach} {v : Value} {d : DataW H} {p : List MemPlace}
theorem open_terms (hv : Value.okWide Tryd.prog W r base 22 v) (ht : DataW.Trod enc Tryd.prog W b1 spare held 22 v d p) : ∃ (ts : List TD) (A : Option Addr) (cap : Nat), v = .slice A ts.length cap ∧ ts.length ≤ cap ∧ cap ≤ 9223372036854775807 ∧ inT W A ts := by
  obtain ⟨a, len, cap, rfl⟩ := okWide_slice Tryd.underlying22 hv
  obtain ⟨fuel, hf⟩ := ht
  obtain ⟨l, hl⟩ := opens_terms enc W _ _ _ _ _ _ hf
  obtain ⟨ts, A, c, e, h1, h2, h3⟩ := terms_of_r hl
  simp [Value.cells] at e
  obtain ⟨rfl, rfl, rfl⟩ := e
  exact ⟨ts, _, _, rfl, h1, h2, h3⟩
end

end Go.Proofs.YtcejbofdgljemaaDoor
/-
  Parameters that are an engine, a byte, or a number, opened. No conditions.
-/
namespace Go.Proofs.YtcejbofdgljemaaDoor
set_option maxRecDepth 100000
open Go.RowKit Go.WideShapes
set_option linter.unusedSimpArgs false
set_option linter.unusedVariables false

theorem opens_engine : Opens Tryd.prog 24 (RTwo 0 1 1 1 RInt (RSlice 2 (RTwo 0 1 1 1 (RSlice 1 RByte) (RSlice 1 RByte)))) := opens_two Tryd.underlying24 rfl rfl (by kernel_rfl) (by kernel_rfl) (by kernel_rfl) (opens_int Tryd.underlying3) opens_terms
section
variable {H : Type} {enc : TypeId × Value → H} {W : World} {base b1 : Nat} {spare : Nat → Bool} {held : Bool} {r : Reach} {v : Value} {d : DataW H} {p : List MemPlace}
theorem open_engine (hv : Value.okWide Tryd.prog W r base 24 v) (ht : DataW.Trod enc Tryd.prog W b1 spare held 24 v d p) : ∃ (K : Int) (ts : List TD) (A : Option Addr) (cap : Nat), v = .agg #[.int .i64 K, .slice A ts.length cap] ∧ ts.length ≤ cap ∧ cap ≤ 9223372036854775807 ∧ inT W A ts := by
  obtain ⟨cs, rfl, _⟩ := okWide_struct Tryd.underlying24 hv
  obtain ⟨fuel, hf⟩ := ht
  obtain ⟨⟨K, l⟩, hl, h0, h1⟩ := opens_engine enc W _ _ _ _ _ _ hf
  obtain ⟨ts, A, c, e, h2, h3, h4⟩ := terms_of_r h1
  obtain ⟨e0, _⟩ := h0
  refine ⟨K, ts, A, c, ?_, h2, h3, h4⟩
  congr 1
  apply Array.toList_inj.1
  simp only [Value.cells] at hl e e0
  match hcs : cs.toList, hl with
  | [a, b], _ =>
    rw [hcs] at e e0
    simp at e e0
    rw [e, e0]
theorem open_u8 (hv : Value.okWide Tryd.prog W r base 5 v) (ht : DataW.Trod enc Tryd.prog W b1 spare held 5 v d p) : ∃ y : UInt8, v = .int .u8 (y.toNat : Int) := by
  obtain ⟨n, rfl⟩ := okWide_int Tryd.underlying5 hv
  obtain ⟨fuel, hf⟩ := ht
  obtain ⟨y, hy⟩ := opens_byte Tryd.underlying5 enc W _ _ _ _ _ _ hf
  unfold RByte vB at hy
  simp [Value.cells] at hy
  exact ⟨y, by rw [hy]⟩
theorem open_i64 (hv : Value.okWide Tryd.prog W r base 3 v) (ht : DataW.Trod enc Tryd.prog W b1 spare held 3 v d p) : ∃ n : Int, v = .int .i64 n := okWide_int Tryd.underlying3 hv
end
end Go.Proofs.YtcejbofdgljemaaDoor
/-
  The laws of layer 6, at whatever comes in: they answer true, and write nothing that was there. Condition: the package's table holds sixty-four words.
-/
namespace Go.Proofs.YtcejbofdgljemaaDoor
set_option maxRecDepth 100000
open Go.RowKit Go.WideShapes
set_option linter.unusedSimpArgs false
set_option linter.unusedVariables false

theorem inE_of {w : World} {A : Option Addr} {ts : List TD} (h : inT w A ts) : inE w A ts := h
set_option maxRecDepth 100000 in
theorem macfits_out [Inhabited Tab] (K at0 y : Int) (ts : List TD) (p : Nat) (A : Option Addr) (c : Nat) (w : World) (HP : Hid (ts.length = p)) (ht : inE w A ts) (hp : p ≤ 9223372036854775807) (n m q : Nat) (B C D : Option Addr) (d e f : Nat) (hn : n ≤ 9223372036854775807) (hm : m ≤ 9223372036854775807) (hq : q ≤ 9223372036854775807) (h : ¬ (shortT (conT ts) = true ∧ n ≤ 2000 ∧ m ≤ 2000 ∧ q ≤ 2000)) (HK : Hid (KTab w)) :
    Calls Tryd.prog 5 #[.agg #[.int .i64 K, .slice A p c], .slice B n d, .slice C m e, .slice D q f, .int .u8 at0, .int .u8 y] w fun e w' => e = .returned (.bool true) ∧ Below w.heap.size w w' := by
  obtain ⟨hR, hB⟩ := box_rows w 24 (.int .i64 K) (.slice A p c)
  replace ht := ht.keep hB
  replace HK := Lib.hid (HK.out.keep hB)
  go_enter Tryd.func5, Tryd.ntmps5
  go_upto_region 1 with fail
  generalize (w.alloc (.cells #[.int .i64 K, .slice A p c] 24)) = w1 at hR hB ht HK ⊢
  go_wp2_with fail
  refine (awake6_any _ HK).mono ?_
  rintro e' w2 ⟨rfl, hb⟩
  have c0 : w2.cell? ⟨w.heap.size, 1, none⟩ = some (.slice A p c) := (hR.later hb).cell rfl
  replace ht := ht.keep hb
  replace hB := below_step hB hb
  clear hb
  go_wp2_with fail
  refine (refshort_any ts p A c _ HP ht.1 ht.2.2 hp).mono ?_
  rintro e' w3 ⟨rfl, rfl⟩
  by_cases hs : shortT (conT ts) = true
  · rw [hs]
    by_cases k0 : n ≤ 2000
    · have g0 : decide ((2000 : Int) < (n : Int)) = false := decide_eq_false (by omega)
      have z0 : ¬ 2000 < n := by omega
      by_cases k1 : m ≤ 2000
      · have g1 : decide ((2000 : Int) < (m : Int)) = false := decide_eq_false (by omega)
        have z1 : ¬ 2000 < m := by omega
        have h2 : ¬ q ≤ 2000 := fun x => h ⟨hs, k0, k1, x⟩
        have g2 : decide ((2000 : Int) < (q : Int)) = true := decide_eq_true (by omega)
        have z2 : 2000 < q := by omega
        clear h
        go_wp2_with fail
        go_ret
        exact ⟨rfl, hB⟩
      · have g1 : decide ((2000 : Int) < (m : Int)) = true := decide_eq_true (by omega)
        have z1 : 2000 < m := by omega
        clear h
        go_wp2_with fail
        go_ret
        exact ⟨rfl, hB⟩
    · have g0 : decide ((2000 : Int) < (n : Int)) = true := decide_eq_true (by omega)
      have z0 : 2000 < n := by omega
      clear h
      go_wp2_with fail
      go_ret
      exact ⟨rfl, hB⟩
  · rw [Bool.eq_false_iff.2 hs]
    clear h
    go_wp2_with fail
    go_ret
    exact ⟨rfl, hB⟩

theorem macfits_any [Inhabited Tab] (v0 v1 v2 v3 v4 v5 : Value) (W : World) {H : Type} {enc : TypeId × Value → H} {base : Nat} {d0 d1 d2 d3 d4 d5 : DataW H} {p0 p1 p2 p3 p4 p5 : List MemPlace}
    (hv0 : Value.okWide Tryd.prog W .any base 24 v0) (ht0 : DataW.Trod enc Tryd.prog W 0 (fun _ => true) true 24 v0 d0 p0) (hv1 : Value.okWide Tryd.prog W .any base 25 v1) (ht1 : DataW.Trod enc Tryd.prog W 0 (fun _ => true) true 25 v1 d1 p1) (hv2 : Value.okWide Tryd.prog W .any base 25 v2) (ht2 : DataW.Trod enc Tryd.prog W 0 (fun _ => true) true 25 v2 d2 p2) (hv3 : Value.okWide Tryd.prog W .any base 25 v3) (ht3 : DataW.Trod enc Tryd.prog W 0 (fun _ => true) true 25 v3 d3 p3) (hv4 : Value.okWide Tryd.prog W .any base 5 v4) (ht4 : DataW.Trod enc Tryd.prog W 0 (fun _ => true) true 5 v4 d4 p4) (hv5 : Value.okWide Tryd.prog W .any base 5 v5) (ht5 : DataW.Trod enc Tryd.prog W 0 (fun _ => true) true 5 v5 d5 p5) (hk : KTab W) :
    Calls Tryd.prog 5 #[v0, v1, v2, v3, v4, v5] W fun e w' => e = .returned (.bool true) ∧ Below W.heap.size W w' := by
  obtain ⟨K, ts, A, c, rfl, hc, hcm, ht⟩ := open_engine hv0 ht0
  replace ht := inE_of ht
  obtain ⟨k, B, d, rfl, hd, hdm, hk1⟩ := open_bytes hv1 ht1
  obtain ⟨m, C, e, rfl, he, hem, hm⟩ := open_bytes hv2 ht2
  obtain ⟨g, D, f, rfl, hf, hfm, hg⟩ := open_bytes hv3 ht3
  obtain ⟨at0, rfl⟩ := open_u8 hv4 ht4
  obtain ⟨y, rfl⟩ := open_u8 hv5 ht5
  by_cases h : shortT (conT ts) = true ∧ k.length ≤ 2000 ∧ m.length ≤ 2000 ∧ g.length ≤ 2000
  · exact macfits_core K ts k m g _ _ _ _ at0.toNat y A B C D c d e f W (Lib.hid rfl) (Lib.hid rfl) (Lib.hid rfl) (Lib.hid rfl) ht hk1 hm hg hc hd he hf h.2.1 h.2.2.1 h.2.2.2 at0.toNat_lt (Lib.hid h.1) (Lib.hid hk)
  · exact macfits_out K _ _ ts _ A c W (Lib.hid rfl) ht (by omega) _ _ _ B C D d e f (by omega) (by omega) (by omega) h (Lib.hid hk)
end Go.Proofs.YtcejbofdgljemaaDoor
/-
  What the rows' condition on package-level variables gives the walks: the table of sixty-four constants. Condition: the table reads as the rows list it.
-/
namespace Go.Proofs.YtcejbofdgljemaaDoor
set_option maxRecDepth 100000
open Go.RowKit

theorem ktab_of_laid {W : World} (h : laidMetH Tryd.prog [("wristband/sha.constants", Rows.laid_wristband_sha_constants)] W) : KTab W := by
  rw [MakeChecks.laidMetH_plain _ _ _ (by kernel_rfl)] at h
  have e : (Rows.laid_wristband_sha_constants : DataW Unit) = Lib.tabData .u32 (kL.map fun x => (x.toNat : Int)) := by kernel_rfl
  rw [e] at h
  have hT := Lib.tabIs_of_head (P := Tryd.prog) (g := 1) (t := 128) (e := 99) (n := 64) (by kernel_rfl) (by kernel_rfl) Tryd.underlying128 Tryd.underlying99 (by kernel_rfl) (by kernel_rfl) h
  intro i hi
  have h64 : kL.length = 64 := rfl
  have := hT.cell (g := 1) (by kernel_rfl) i (by simp [h64, hi])
  show _ = some (Value.int .u32 ((kL.getD i 0).toNat : Int))
  rw [this]
  simp [List.getD, h64, hi]
end Go.Proofs.YtcejbofdgljemaaDoor
/-
  The laws of layer 6, at whatever comes in: they answer true, and write nothing that was there. Condition: the package's table holds the sixty-four constants, as the row lists it.
-/
namespace Go.Proofs.YtcejbofdgljemaaDoor
set_option maxRecDepth 100000
end Go.Proofs.YtcejbofdgljemaaDoor
