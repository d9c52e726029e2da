/-
  What the program's newest and only of layer 20 answer (landed code). Condition: the package's table holds the sixty-four constants.
-/
import Derived.Test.YteppocjgodmpdaaGreatDoorQO10
set_option linter.unusedSimpArgs false
set_option linter.unusedVariables false
set_option maxRecDepth 100000
namespace Go.Proofs.YteppocjgodmpdaaGreatDoor
open Go.RowKit
def HoG (s : Bool) (num : Nat) (m : MemK) (a : Bool) (n : Nat) (G : Option (Nat × MemK × Nat)) : Prop := (s = false → G = none) ∧ (s = true → ∃ z, G = some (num, m, z) ∧ (a = true ↔ z = n))
def RetH1 (w : World) (G : Option (Nat × MemK × Nat)) (n : Nat) (e : Ending) (w' : World) : Prop :=
  ∃ s num x m a, e = .returned (.agg #[.bool s, .int .u64 ((num : Nat) : Int), .int .u64 (m.clock : Int), .int .u64 (m.b.1 : Int), .slice x.b.eA x.b.n x.b.ec, .slice x.b.gA x.b.g x.b.gc, .int .i64 m.c.1, .int .u64 (m.c.2.1 : Int), .slice x.c.A x.c.s x.c.c, .bool a]) ∧ InM w' x m ∧ OffM 0 w.heap.size x ∧ num < 18446744073709551616 ∧ Hid (HoG s num m a n G) ∧ Below w.heap.size w w'
theorem hold1_any [Inhabited Tab] (b : List UInt8) (n : Nat) (A : Option Addr) (c : Nat) (w : World) (HN : Hid (b.length = n)) (hr : Rd vB w A b) (hc : n ≤ c) (hn : n ≤ 1000000000) (HK : Hid (KTab w)) :
    Calls Tryz.prog 82 #[.slice A n c] w (RetH1 w (areaK fS b) n) := by
  refine (hold_any b n A c w HN hr hc hn HK).mono ?_
  rintro e w' ⟨hcase, hb⟩
  rcases hcase with ⟨hG, rfl⟩ | ⟨x, m, num, z, a, hG, rfl, hI, ho, hnum, ha⟩
  · exact ⟨false, 0, zeroWM, zeroMem, false, rfl, zeroM_in w', (zeroM_fresh _).off 0, by decide, And.intro (fun _ => hG) (fun h => by cases h), hb⟩
  · exact ⟨true, num, x, m, a, rfl, hI, ho, hnum, And.intro (fun h => by cases h) (fun _ => ⟨z, hG, ha⟩), hb⟩
theorem at_held0 (b : Nat) (W : World) : (Instr.indexAt 147 (.pointer (some ⟨b, 0, none⟩)) (.int .i64 0)).run Tryz.prog W = .ok (.pointer (some ⟨b, 0, none⟩)) W := by kernel_rfl
theorem at_held1 (b : Nat) (W : World) : (Instr.indexAt 147 (.pointer (some ⟨b, 0, none⟩)) (.int .i64 1)).run Tryz.prog W = .ok (.pointer (some ⟨b, 10, none⟩)) W := by kernel_rfl
theorem results_cell_tmpN {fn : Func} {p u : Tmp} {ty : TypeId} (h : fn.results = #[.tmp u, .cell p ty]) (tmps : Array Value) (P : Program) (w : World) :
    (results fn tmps).run P w = ((asAddr (tmps.getD p undef)).run P w).andThen fun a w₁ => ((loadVar ty a).run P w₁).andThen fun x w₂ => .ok (.tuple #[tmps.getD u undef, x]) w₂ := by
  simp only [results, h]
  simp [Sem.run_bind, Result.andThen]
theorem results_tmp_row {P : Program} {fn : Func} {p u : Tmp} {ty : TypeId} (h : fn.results = #[.tmp u, .cell p ty]) (tmps : Array Value) (w : World) (g : Nat) (t : TypeId) (l : List Value) (d : TypeDesc) (hp : tmps.getD p undef = .pointer (some ⟨g, 0, none⟩)) (hg : Row w g t l)
    (hu : P.underlying ty = some d) (hd : d.isRow = true) (hi : (P.info? ty).map (·.size) = some l.length) : (results fn tmps).run P w = .ok (.tuple #[tmps.getD u undef, .agg l.toArray]) w := by
  rw [results_cell_tmpN h, hp]
  simp only [asAddr, Sem.run_pure, Result.andThen_ok, hg.loadVar (P := P) ty d hu hd hi]
def RetNw (w : World) (D : DK) (G : Option (Nat × (Nat × MemK × Nat))) (e : Ending) (w' : World) : Prop :=
  ∃ t s num x m a, e = .returned (.tuple #[.int .i64 t, .agg #[.bool s, .int .u64 ((num : Nat) : Int), .int .u64 (m.clock : Int), .int .u64 (m.b.1 : Int), .slice x.b.eA x.b.n x.b.ec, .slice x.b.gA x.b.g x.b.gc, .int .i64 m.c.1, .int .u64 (m.c.2.1 : Int), .slice x.c.A x.c.s x.c.c, .bool a]]) ∧ InM w' x m ∧ OffM 0 w.heap.size x ∧ num < 18446744073709551616 ∧ (t = 0 ∨ t = 1) ∧
    Hid (s = false → G = none) ∧ Hid (s = true → ∃ z, G = some (t.toNat, num, m, z) ∧ (a = true ↔ z = (getA D t.toNat).b.length)) ∧ Below w.heap.size w w'
theorem new_one {f : List UInt8 → List UInt8} {D : DK} {s0 s1 a0 a1 : Bool} {n0 n1 : Nat} {m0 m1 : MemK} (h0 : HoG s0 n0 m0 a0 D.a0.b.length (areaK f D.a0.b)) (h1 : HoG s1 n1 m1 a1 D.a1.b.length (areaK f D.a1.b)) (hc : s0 = false ∨ s1 = true ∧ n0 < n1) :
    (s1 = false → hasK f D = none) ∧ (s1 = true → ∃ z, hasK f D = some (1, n1, m1, z) ∧ (a1 = true ↔ z = D.a1.b.length)) := by
  constructor
  · intro e
    rcases hc with h | h
    · unfold hasK
      rw [h0.1 h, h1.1 e]
    · rw [h.1] at e; cases e
  · intro e
    obtain ⟨z, hz, ha⟩ := h1.2 e
    refine ⟨z, ?_, ha⟩
    cases s0 with
    | false =>
      unfold hasK
      rw [h0.1 rfl, hz]
    | true =>
      obtain ⟨z0, hz0, _⟩ := h0.2 rfl
      rcases hc with h | h
      · cases h
      · unfold hasK
        rw [hz0, hz]
        dsimp only
        rw [if_neg (by omega)]
theorem new_zero {f : List UInt8 → List UInt8} {D : DK} {s0 s1 a0 a1 : Bool} {n0 n1 : Nat} {m0 m1 : MemK} (h0 : HoG s0 n0 m0 a0 D.a0.b.length (areaK f D.a0.b)) (h1 : HoG s1 n1 m1 a1 D.a1.b.length (areaK f D.a1.b)) (hs : s0 = true) (hc : s1 = false ∨ ¬ n0 < n1) :
    ∃ z, hasK f D = some (0, n0, m0, z) ∧ (a0 = true ↔ z = D.a0.b.length) := by
  obtain ⟨z, hz, ha⟩ := h0.2 hs
  refine ⟨z, ?_, ha⟩
  cases s1 with
  | false =>
    unfold hasK
    rw [hz, h1.1 rfl]
  | true =>
    obtain ⟨z1, hz1, _⟩ := h1.2 rfl
    rcases hc with h | h
    · cases h
    · unfold hasK
      rw [hz, hz1]
      dsimp only
      rw [if_pos (by omega)]
set_option maxHeartbeats 16000000 in
theorem newest_any [Inhabited Tab] (x : WD) (D : DK) (w : World) (h : InD w x D) (hn0 : x.n0 ≤ 1000000000) (hn1 : x.n1 ≤ 1000000000) (HK : Hid (KTab w)) :
    Calls Tryz.prog 39 #[aggD x D] w (RetNw w D (hasK fS D)) := by
  have hR0 : Row (((w.alloc (.cells (lD x D).toArray 27)).alloc (.cells #[.bool false, .int .u64 0, .int .u64 0, .int .u64 0, .slice none 0 0, .slice none 0 0, .int .i64 0, .int .u64 0, .slice none 0 0, .bool false] 94)).alloc (.cells #[.bool false, .int .u64 0, .int .u64 0, .int .u64 0, .slice none 0 0, .slice none 0 0, .int .i64 0, .int .u64 0, .slice none 0 0, .bool false, .bool false, .int .u64 0, .int .u64 0, .int .u64 0, .slice none 0 0, .slice none 0 0, .int .i64 0, .int .u64 0, .slice none 0 0, .bool false] 147)) w.heap.size 27 (lD x D) := ((Row.new w _ _ _ rfl).alloc _).alloc _
  have hR1 : Row (((w.alloc (.cells (lD x D).toArray 27)).alloc (.cells #[.bool false, .int .u64 0, .int .u64 0, .int .u64 0, .slice none 0 0, .slice none 0 0, .int .i64 0, .int .u64 0, .slice none 0 0, .bool false] 94)).alloc (.cells #[.bool false, .int .u64 0, .int .u64 0, .int .u64 0, .slice none 0 0, .slice none 0 0, .int .i64 0, .int .u64 0, .slice none 0 0, .bool false, .bool false, .int .u64 0, .int .u64 0, .int .u64 0, .slice none 0 0, .slice none 0 0, .int .i64 0, .int .u64 0, .slice none 0 0, .bool false] 147)) (w.heap.size + 1) 94 [.bool false, .int .u64 0, .int .u64 0, .int .u64 0, .slice none 0 0, .slice none 0 0, .int .i64 0, .int .u64 0, .slice none 0 0, .bool false] := (Row.new_at _ _ (by simp) _ _ _ rfl).alloc _
  have hR2 : Row (((w.alloc (.cells (lD x D).toArray 27)).alloc (.cells #[.bool false, .int .u64 0, .int .u64 0, .int .u64 0, .slice none 0 0, .slice none 0 0, .int .i64 0, .int .u64 0, .slice none 0 0, .bool false] 94)).alloc (.cells #[.bool false, .int .u64 0, .int .u64 0, .int .u64 0, .slice none 0 0, .slice none 0 0, .int .i64 0, .int .u64 0, .slice none 0 0, .bool false, .bool false, .int .u64 0, .int .u64 0, .int .u64 0, .slice none 0 0, .slice none 0 0, .int .i64 0, .int .u64 0, .slice none 0 0, .bool false] 147)) (w.heap.size + 1 + 1) 147 [.bool false, .int .u64 0, .int .u64 0, .int .u64 0, .slice none 0 0, .slice none 0 0, .int .i64 0, .int .u64 0, .slice none 0 0, .bool false, .bool false, .int .u64 0, .int .u64 0, .int .u64 0, .slice none 0 0, .slice none 0 0, .int .i64 0, .int .u64 0, .slice none 0 0, .bool false] := Row.new_at _ _ (by simp) _ _ _ rfl
  have hB := below_new (below_new (below_new (Below.refl _ w) (.cells (lD x D).toArray 27)) (.cells #[.bool false, .int .u64 0, .int .u64 0, .int .u64 0, .slice none 0 0, .slice none 0 0, .int .i64 0, .int .u64 0, .slice none 0 0, .bool false] 94)) (.cells #[.bool false, .int .u64 0, .int .u64 0, .int .u64 0, .slice none 0 0, .slice none 0 0, .int .i64 0, .int .u64 0, .slice none 0 0, .bool false, .bool false, .int .u64 0, .int .u64 0, .int .u64 0, .slice none 0 0, .slice none 0 0, .int .i64 0, .int .u64 0, .slice none 0 0, .bool false] 147)
  obtain ⟨G, hG⟩ : ∃ G, hasK fS D = G := ⟨_, rfl⟩
  have HG := Lib.hid hG
  rw [hG]
  obtain ⟨l0, h0, r0, l1, h1, r1⟩ := h
  have HH0 := Lib.hid (fun W (hb : Below w.heap.size w W) => hold1_any D.a0.b x.n0 x.A0 x.c0 W (Lib.hid l0) (r0.keep hb) h0 hn0 (Lib.hid (HK.out.keep hb)))
  have HH1 := Lib.hid (fun W (hb : Below w.heap.size w W) => hold1_any D.a1.b x.n1 x.A1 x.c1 W (Lib.hid l1) (r1.keep hb) h1 hn1 (Lib.hid (HK.out.keep hb)))
  have HL0 := Lib.hid l0
  have HL1 := Lib.hid l1
  clear hG l0 h0 r0 l1 h1 r1
  unfold aggD
  go_enter Tryz.func39, Tryz.ntmps39
  go_upto_region 2 with fail
  generalize ((w.alloc (.cells (lD x D).toArray 27)).alloc (.cells #[.bool false, .int .u64 0, .int .u64 0, .int .u64 0, .slice none 0 0, .slice none 0 0, .int .i64 0, .int .u64 0, .slice none 0 0, .bool false] 94)).alloc (.cells #[.bool false, .int .u64 0, .int .u64 0, .int .u64 0, .slice none 0 0, .slice none 0 0, .int .i64 0, .int .u64 0, .slice none 0 0, .bool false, .bool false, .int .u64 0, .int .u64 0, .int .u64 0, .slice none 0 0, .slice none 0 0, .int .i64 0, .int .u64 0, .slice none 0 0, .bool false] 147) = W at hR0 hR1 hR2 hB ⊢
  have t0 := hR0.cell (i := 0) rfl
  have t1 := hR0.cell (i := 1) rfl
  have t2 := hR0.cell (i := 2) rfl
  have t3 := hR0.cell (i := 3) rfl
  have hlt := hR2.lt
  have hgb : w.heap.size + 1 + 1 < W.heap.size := hlt
  go_wp2_with fail
  clear t0 t1 t2 t3
  refine wp_loop_rounds 3 ?_
  have ih0 := at_held0 (w.heap.size + 1 + 1)
  have ih1 := at_held1 (w.heap.size + 1 + 1)
  have ix0 := index_area0 (.slice x.A0 x.n0 x.c0) (.int .i64 D.a0.s) (.slice x.A1 x.n1 x.c1) (.int .i64 D.a1.s)
  have ix1 := index_area1 (.slice x.A0 x.n0 x.c0) (.int .i64 D.a0.s) (.slice x.A1 x.n1 x.c1) (.int .i64 D.a1.s)
  rw [rounds_succ]
  obtain ⟨hRa, hBa⟩ := box_of W 24 [.slice none 0 0, .int .i64 0] _ rfl
  go_upto_region 5 with (refine wpList_store_row rfl 24 (.tmp 6) (.tmp 12) rfl (W.heap.size) rfl ([.slice x.A0 x.n0 x.c0, .int .i64 D.a0.s]) rfl _ _ (hRa) (by exact size_area) rfl (one_area x.A0 x.n0 x.c0 D.a0.s) ?_)
  have hRa2 := hRa.setRow [.slice x.A0 x.n0 x.c0, .int .i64 D.a0.s]
  have hB2 := below_setRow hBa (Nat.le_refl _) [.slice x.A0 x.n0 x.c0, .int .i64 D.a0.s].toArray
  clear hRa hBa
  generalize (W.alloc (.cells #[.slice none 0 0, .int .i64 0] 24)).setRow W.heap.size [.slice x.A0 x.n0 x.c0, .int .i64 D.a0.s].toArray = V0 at hRa2 hB2 ⊢
  have t0 : V0.cell? ⟨W.heap.size, 0, none⟩ = some (.slice x.A0 x.n0 x.c0) := hRa2.cell rfl
  replace hR1 := hR1.later hB2
  replace hR2 := hR2.later hB2
  replace hB := below_step hB hB2
  have hs2 := hB2.size
  clear hB2 hRa2
  go_wp2_with fail
  refine (HH0.out _ hB).mono ?_
  rintro e w1 ⟨s0, n0, x0, m0, a0, rfl, hI0, ho0, hnum0, HO0, hb1⟩
  replace hR1 := hR1.later hb1
  replace hR2 := hR2.later hb1
  replace hB := below_step hB hb1
  have hs3 := hb1.size
  have hth := there_of hR2 0 10 (by simp)
  have hO6 := Only.setCells (g := w.heap.size + 1 + 1) [.bool s0, .int .u64 (n0 : Int), .int .u64 (m0.clock : Int), .int .u64 (m0.b.1 : Int), .slice x0.b.eA x0.b.n x0.b.ec, .slice x0.b.gA x0.b.g x0.b.gc, .int .i64 m0.c.1, .int .u64 (m0.c.2.1 : Int), .slice x0.c.A x0.c.s x0.c.c, .bool a0] 0 (Only.refl _ w1)
  have hR26 : Row (w1.setCells (w.heap.size + 1 + 1) 0 [.bool s0, .int .u64 (n0 : Int), .int .u64 (m0.clock : Int), .int .u64 (m0.b.1 : Int), .slice x0.b.eA x0.b.n x0.b.ec, .slice x0.b.gA x0.b.g x0.b.gc, .int .i64 m0.c.1, .int .u64 (m0.c.2.1 : Int), .slice x0.c.A x0.c.s x0.c.c, .bool a0]) (w.heap.size + 1 + 1) 147 [.bool s0, .int .u64 (n0 : Int), .int .u64 (m0.clock : Int), .int .u64 (m0.b.1 : Int), .slice x0.b.eA x0.b.n x0.b.ec, .slice x0.b.gA x0.b.g x0.b.gc, .int .i64 m0.c.1, .int .u64 (m0.c.2.1 : Int), .slice x0.c.A x0.c.s x0.c.c, .bool a0, .bool false, .int .u64 0, .int .u64 0, .int .u64 0, .slice none 0 0, .slice none 0 0, .int .i64 0, .int .u64 0, .slice none 0 0, .bool false] := hR2.setCells _ 0 (by simp)
  have hR16 := hR1.only hO6 (by omega)
  have hB6 := hB.trans (hO6.below.mono (by omega))
  replace hI0 := hI0.at_only hO6 ho0 (Nat.zero_le _) (by omega)
  have hs6 := hO6.below.size
  clear hb1 t0
  go_upto_region 6 with (refine wpList_store_mid rfl 94 (.tmp 17) (.tmp 16) rfl (w.heap.size + 1 + 1) 0 (#[.bool s0, .int .u64 (n0 : Int), .int .u64 (m0.clock : Int), .int .u64 (m0.b.1 : Int), .slice x0.b.eA x0.b.n x0.b.ec, .slice x0.b.gA x0.b.g x0.b.gc, .int .i64 m0.c.1, .int .u64 (m0.c.2.1 : Int), .slice x0.c.A x0.c.s x0.c.c, .bool a0]) rfl rfl (hth) (by exact size_held) (by exact all_oneCell_toArray (one_held s0 n0 x0 m0 a0)) ?_)
  clear hR2 hR1 hB hO6 hth
  generalize w1.setCells (w.heap.size + 1 + 1) 0 [.bool s0, .int .u64 (n0 : Int), .int .u64 (m0.clock : Int), .int .u64 (m0.b.1 : Int), .slice x0.b.eA x0.b.n x0.b.ec, .slice x0.b.gA x0.b.g x0.b.gc, .int .i64 m0.c.1, .int .u64 (m0.c.2.1 : Int), .slice x0.c.A x0.c.s x0.c.c, .bool a0] = W6 at *
  have hR2 := hR26
  have hR1 := hR16
  have hB := hB6
  clear hR26 hR16 hB6
  go_wp2_with fail
  rw [rounds_succ]
  obtain ⟨hRa, hBa⟩ := box_of W6 24 [.slice none 0 0, .int .i64 0] _ rfl
  go_upto_region 5 with (refine wpList_store_row rfl 24 (.tmp 6) (.tmp 12) rfl (W6.heap.size) rfl ([.slice x.A1 x.n1 x.c1, .int .i64 D.a1.s]) rfl _ _ (hRa) (by exact size_area) rfl (one_area x.A1 x.n1 x.c1 D.a1.s) ?_)
  have hRa2 := hRa.setRow [.slice x.A1 x.n1 x.c1, .int .i64 D.a1.s]
  have hB2 := below_setRow hBa (Nat.le_refl _) [.slice x.A1 x.n1 x.c1, .int .i64 D.a1.s].toArray
  clear hRa hBa
  generalize (W6.alloc (.cells #[.slice none 0 0, .int .i64 0] 24)).setRow W6.heap.size [.slice x.A1 x.n1 x.c1, .int .i64 D.a1.s].toArray = V1 at hRa2 hB2 ⊢
  have t0 : V1.cell? ⟨W6.heap.size, 0, none⟩ = some (.slice x.A1 x.n1 x.c1) := hRa2.cell rfl
  replace hR1 := hR1.later hB2
  replace hR2 := hR2.later hB2
  replace hB := below_step hB hB2
  replace hI0 := hI0.keep hB2
  have hs2 := hB2.size
  clear hB2 hRa2
  go_wp2_with fail
  refine (HH1.out _ hB).mono ?_
  rintro e w2 ⟨s1, n1, x1, m1, a1, rfl, hI1, ho1, hnum1, HO1, hb1⟩
  replace hR1 := hR1.later hb1
  replace hR2 := hR2.later hb1
  replace hB := below_step hB hb1
  replace hI0 := hI0.keep hb1
  have hs3 := hb1.size
  have hth := there_of hR2 10 10 (by simp)
  have hO6 := Only.setCells (g := w.heap.size + 1 + 1) [.bool s1, .int .u64 (n1 : Int), .int .u64 (m1.clock : Int), .int .u64 (m1.b.1 : Int), .slice x1.b.eA x1.b.n x1.b.ec, .slice x1.b.gA x1.b.g x1.b.gc, .int .i64 m1.c.1, .int .u64 (m1.c.2.1 : Int), .slice x1.c.A x1.c.s x1.c.c, .bool a1] 10 (Only.refl _ w2)
  have hR26 : Row (w2.setCells (w.heap.size + 1 + 1) 10 [.bool s1, .int .u64 (n1 : Int), .int .u64 (m1.clock : Int), .int .u64 (m1.b.1 : Int), .slice x1.b.eA x1.b.n x1.b.ec, .slice x1.b.gA x1.b.g x1.b.gc, .int .i64 m1.c.1, .int .u64 (m1.c.2.1 : Int), .slice x1.c.A x1.c.s x1.c.c, .bool a1]) (w.heap.size + 1 + 1) 147 [.bool s0, .int .u64 (n0 : Int), .int .u64 (m0.clock : Int), .int .u64 (m0.b.1 : Int), .slice x0.b.eA x0.b.n x0.b.ec, .slice x0.b.gA x0.b.g x0.b.gc, .int .i64 m0.c.1, .int .u64 (m0.c.2.1 : Int), .slice x0.c.A x0.c.s x0.c.c, .bool a0, .bool s1, .int .u64 (n1 : Int), .int .u64 (m1.clock : Int), .int .u64 (m1.b.1 : Int), .slice x1.b.eA x1.b.n x1.b.ec, .slice x1.b.gA x1.b.g x1.b.gc, .int .i64 m1.c.1, .int .u64 (m1.c.2.1 : Int), .slice x1.c.A x1.c.s x1.c.c, .bool a1] := hR2.setCells _ 10 (by simp)
  have hR16 := hR1.only hO6 (by omega)
  have hB6 := hB.trans (hO6.below.mono (by omega))
  replace hI1 := hI1.at_only hO6 ho1 (Nat.zero_le _) (by omega)
  replace hI0 := hI0.at_only hO6 ho0 (Nat.zero_le _) (by omega)
  have hs6 := hO6.below.size
  clear hb1 t0
  go_upto_region 6 with (refine wpList_store_mid rfl 94 (.tmp 17) (.tmp 16) rfl (w.heap.size + 1 + 1) 10 (#[.bool s1, .int .u64 (n1 : Int), .int .u64 (m1.clock : Int), .int .u64 (m1.b.1 : Int), .slice x1.b.eA x1.b.n x1.b.ec, .slice x1.b.gA x1.b.g x1.b.gc, .int .i64 m1.c.1, .int .u64 (m1.c.2.1 : Int), .slice x1.c.A x1.c.s x1.c.c, .bool a1]) rfl rfl (hth) (by exact size_held) (by exact all_oneCell_toArray (one_held s1 n1 x1 m1 a1)) ?_)
  clear hR2 hR1 hB hO6 hth
  generalize w2.setCells (w.heap.size + 1 + 1) 10 [.bool s1, .int .u64 (n1 : Int), .int .u64 (m1.clock : Int), .int .u64 (m1.b.1 : Int), .slice x1.b.eA x1.b.n x1.b.ec, .slice x1.b.gA x1.b.g x1.b.gc, .int .i64 m1.c.1, .int .u64 (m1.c.2.1 : Int), .slice x1.c.A x1.c.s x1.c.c, .bool a1] = W9 at *
  have hR2 := hR26
  have hR1 := hR16
  have hB := hB6
  clear hR26 hR16 hB6
  go_wp2_with fail
  rw [rounds_succ]
  clear ix0 ix1 HH0 HH1
  have k0 := hR2.cell (i := 0) rfl
  have k1 := hR2.cell (i := 1) rfl
  have k10 := hR2.cell (i := 10) rfl
  have k11 := hR2.cell (i := 11) rfl
  have hsz := hR1.lt
  have HD0 : Hid (HoG s0 n0 m0 a0 D.a0.b.length (areaK fS D.a0.b)) := by have := HO0.out; unfold Hid; rw [HL0.out]; exact this
  have HD1 : Hid (HoG s1 n1 m1 a1 D.a1.b.length (areaK fS D.a1.b)) := by have := HO1.out; unfold Hid; rw [HL1.out]; exact this
  clear HO0 HO1
  cases s0 with
  | false =>
    have HFF := Lib.hid (new_one HD0.out HD1.out (.inl rfl))
    go_upto_region 8 with fail
    have hR2' : Row W9.drew (w.heap.size + 1 + 1) 147 [.bool false, .int .u64 (n0 : Int), .int .u64 (m0.clock : Int), .int .u64 (m0.b.1 : Int), .slice x0.b.eA x0.b.n x0.b.ec, .slice x0.b.gA x0.b.g x0.b.gc, .int .i64 m0.c.1, .int .u64 (m0.c.2.1 : Int), .slice x0.c.A x0.c.s x0.c.c, .bool a0, .bool s1, .int .u64 (n1 : Int), .int .u64 (m1.clock : Int), .int .u64 (m1.b.1 : Int), .slice x1.b.eA x1.b.n x1.b.ec, .slice x1.b.gA x1.b.g x1.b.gc, .int .i64 m1.c.1, .int .u64 (m1.c.2.1 : Int), .slice x1.c.A x1.c.s x1.c.c, .bool a1] := hR2
    have hR1' := hR1.drew
    have hB' := hB.drew
    have hI' := hI1.keep ((Below.refl _ W9).drew)
    refine wp_region_plan_of (fun _ => True) (.step 0 false (.step 2 false (.step 1 true (.step 3 true (.nil))))) trivial (by kernel_rfl) (by kernel_rfl) (by rfl) (by kernel_rfl) ?_
    clear hR2 hR1 hB hI0 hI1
    generalize W9.drew = wv at *
    iterate 2 (refine plan_read rfl (by rfl) (v := ?_) ?_ ?_; rotate_left 1; (intro W hW; go_simp <;> with_reducible rfl); simp only [pA, pB, pC, Act.put, pD, pE, pF])
    refine plan_make_of rfl (by rfl) (fun K hK => ?_)
    refine wp_load_mid 94 (.tmp 37) rfl (w.heap.size + 1 + 1) 10 rfl [.bool s1, .int .u64 (n1 : Int), .int .u64 (m1.clock : Int), .int .u64 (m1.b.1 : Int), .slice x1.b.eA x1.b.n x1.b.ec, .slice x1.b.gA x1.b.g x1.b.gc, .int .i64 m1.c.1, .int .u64 (m1.c.2.1 : Int), .slice x1.c.A x1.c.s x1.c.c, .bool a1] _ (hR2'.range_part 10 _ rfl) Tryz.underlying94 rfl (by exact size_held) ?_
    refine hK.out _ _ trivial ?_
    clear hK K
    simp only [pA, pB, pC, Act.put, pD, pE, pF]
    refine plan_make_of rfl (by rfl) (fun K hK => ?_)
    refine hR1'.wp_store 94 (.tmp 3) (.tmp 38) rfl rfl [.bool s1, .int .u64 (n1 : Int), .int .u64 (m1.clock : Int), .int .u64 (m1.b.1 : Int), .slice x1.b.eA x1.b.n x1.b.ec, .slice x1.b.gA x1.b.g x1.b.gc, .int .i64 m1.c.1, .int .u64 (m1.c.2.1 : Int), .slice x1.c.A x1.c.s x1.c.c, .bool a1] rfl (by exact size_held) rfl (one_held s1 n1 x1 m1 a1) ?_
    refine hK.out _ _ trivial ?_
    clear hK K
    simp only [pA, pB, pC, Act.put, pD, pE, pF]
    refine plan_done ?_
    go_wp2_with fail
    refine bodyPost_ret (results_tmp_row (p := 3) (u := 2) (ty := 94) (by rfl) _ _ (w.heap.size + 1) 94 _ _ (by rfl) (by exact hR1'.setRow _) Tryz.underlying94 (by rfl) (by exact size_held)) (by rfl) ?_
    have hO9 := (Only.refl (w.heap.size + 1) wv).setRow [.bool s1, .int .u64 (n1 : Int), .int .u64 (m1.clock : Int), .int .u64 (m1.b.1 : Int), .slice x1.b.eA x1.b.n x1.b.ec, .slice x1.b.gA x1.b.g x1.b.gc, .int .i64 m1.c.1, .int .u64 (m1.c.2.1 : Int), .slice x1.c.A x1.c.s x1.c.c, .bool a1].toArray
    have HF := HFF.out
    rw [HG.out] at HF
    exact ⟨1, s1, n1, x1, m1, a1, rfl, hI'.at_only hO9 ho1 (Nat.zero_le _) (by omega), ho1.mono (Nat.le_refl _) (by omega), hnum1, .inr rfl, (fun h => by first | exact HF.1 h | cases h), (fun h => by first | exact HF.2 h | exact HF.2 trivial), below_setRow hB' (by omega) _⟩
  | true =>
    cases s1 with
    | false =>
      have HFF := Lib.hid (new_zero HD0.out HD1.out rfl (.inl rfl))
      go_upto_region 9 with fail
      have hR2' : Row W9.drew (w.heap.size + 1 + 1) 147 [.bool true, .int .u64 (n0 : Int), .int .u64 (m0.clock : Int), .int .u64 (m0.b.1 : Int), .slice x0.b.eA x0.b.n x0.b.ec, .slice x0.b.gA x0.b.g x0.b.gc, .int .i64 m0.c.1, .int .u64 (m0.c.2.1 : Int), .slice x0.c.A x0.c.s x0.c.c, .bool a0, .bool false, .int .u64 (n1 : Int), .int .u64 (m1.clock : Int), .int .u64 (m1.b.1 : Int), .slice x1.b.eA x1.b.n x1.b.ec, .slice x1.b.gA x1.b.g x1.b.gc, .int .i64 m1.c.1, .int .u64 (m1.c.2.1 : Int), .slice x1.c.A x1.c.s x1.c.c, .bool a1] := hR2
      have hR1' := hR1.drew
      have hB' := hB.drew
      have hI' := hI0.keep ((Below.refl _ W9).drew)
      refine wp_region_plan_of (fun _ => True) (.step 0 false (.step 2 false (.step 1 true (.step 3 true (.nil))))) trivial (by kernel_rfl) (by kernel_rfl) (by rfl) (by kernel_rfl) ?_
      clear hR2 hR1 hB hI0 hI1
      generalize W9.drew = wv at *
      iterate 2 (refine plan_read rfl (by rfl) (v := ?_) ?_ ?_; rotate_left 1; (intro W hW; go_simp <;> with_reducible rfl); simp only [pA, pB, pC, Act.put, pD, pE, pF])
      refine plan_make_of rfl (by rfl) (fun K hK => ?_)
      refine wp_load_mid 94 (.tmp 39) rfl (w.heap.size + 1 + 1) 0 rfl [.bool true, .int .u64 (n0 : Int), .int .u64 (m0.clock : Int), .int .u64 (m0.b.1 : Int), .slice x0.b.eA x0.b.n x0.b.ec, .slice x0.b.gA x0.b.g x0.b.gc, .int .i64 m0.c.1, .int .u64 (m0.c.2.1 : Int), .slice x0.c.A x0.c.s x0.c.c, .bool a0] _ (hR2'.range_part 0 _ rfl) Tryz.underlying94 rfl (by exact size_held) ?_
      refine hK.out _ _ trivial ?_
      clear hK K
      simp only [pA, pB, pC, Act.put, pD, pE, pF]
      refine plan_make_of rfl (by rfl) (fun K hK => ?_)
      refine hR1'.wp_store 94 (.tmp 3) (.tmp 40) rfl rfl [.bool true, .int .u64 (n0 : Int), .int .u64 (m0.clock : Int), .int .u64 (m0.b.1 : Int), .slice x0.b.eA x0.b.n x0.b.ec, .slice x0.b.gA x0.b.g x0.b.gc, .int .i64 m0.c.1, .int .u64 (m0.c.2.1 : Int), .slice x0.c.A x0.c.s x0.c.c, .bool a0] rfl (by exact size_held) rfl (one_held true n0 x0 m0 a0) ?_
      refine hK.out _ _ trivial ?_
      clear hK K
      simp only [pA, pB, pC, Act.put, pD, pE, pF]
      refine plan_done ?_
      go_wp2_with fail
      refine bodyPost_ret (results_tmp_row (p := 3) (u := 2) (ty := 94) (by rfl) _ _ (w.heap.size + 1) 94 _ _ (by rfl) (by exact hR1'.setRow _) Tryz.underlying94 (by rfl) (by exact size_held)) (by rfl) ?_
      have hO9 := (Only.refl (w.heap.size + 1) wv).setRow [.bool true, .int .u64 (n0 : Int), .int .u64 (m0.clock : Int), .int .u64 (m0.b.1 : Int), .slice x0.b.eA x0.b.n x0.b.ec, .slice x0.b.gA x0.b.g x0.b.gc, .int .i64 m0.c.1, .int .u64 (m0.c.2.1 : Int), .slice x0.c.A x0.c.s x0.c.c, .bool a0].toArray
      have HF : (true = false → G = none) ∧ (true = true → ∃ z, G = some (0, n0, m0, z) ∧ (a0 = true ↔ z = D.a0.b.length)) := ⟨(fun h => by cases h), fun _ => by have := HFF.out; rw [HG.out] at this; exact this⟩
      exact ⟨0, true, n0, x0, m0, a0, rfl, hI'.at_only hO9 ho0 (Nat.zero_le _) (by omega), ho0.mono (Nat.le_refl _) (by omega), hnum0, .inl rfl, (fun h => by first | exact HF.1 h | cases h), (fun h => by first | exact HF.2 h | exact HF.2 trivial), below_setRow hB' (by omega) _⟩
    | true =>
      by_cases hlt : n0 < n1
      · have HFF := Lib.hid (new_one HD0.out HD1.out (.inr ⟨rfl, hlt⟩))
        have i1 : (n0 : Int) < (n1 : Int) := by omega
        clear hlt
        go_upto_region 8 with fail
        have hR2' : Row W9.drew (w.heap.size + 1 + 1) 147 [.bool true, .int .u64 (n0 : Int), .int .u64 (m0.clock : Int), .int .u64 (m0.b.1 : Int), .slice x0.b.eA x0.b.n x0.b.ec, .slice x0.b.gA x0.b.g x0.b.gc, .int .i64 m0.c.1, .int .u64 (m0.c.2.1 : Int), .slice x0.c.A x0.c.s x0.c.c, .bool a0, .bool true, .int .u64 (n1 : Int), .int .u64 (m1.clock : Int), .int .u64 (m1.b.1 : Int), .slice x1.b.eA x1.b.n x1.b.ec, .slice x1.b.gA x1.b.g x1.b.gc, .int .i64 m1.c.1, .int .u64 (m1.c.2.1 : Int), .slice x1.c.A x1.c.s x1.c.c, .bool a1] := hR2
        have hR1' := hR1.drew
        have hB' := hB.drew
        have hI' := hI1.keep ((Below.refl _ W9).drew)
        refine wp_region_plan_of (fun _ => True) (.step 0 false (.step 2 false (.step 1 true (.step 3 true (.nil))))) trivial (by kernel_rfl) (by kernel_rfl) (by rfl) (by kernel_rfl) ?_
        clear hR2 hR1 hB hI0 hI1
        generalize W9.drew = wv at *
        iterate 2 (refine plan_read rfl (by rfl) (v := ?_) ?_ ?_; rotate_left 1; (intro W hW; go_simp <;> with_reducible rfl); simp only [pA, pB, pC, Act.put, pD, pE, pF])
        refine plan_make_of rfl (by rfl) (fun K hK => ?_)
        refine wp_load_mid 94 (.tmp 37) rfl (w.heap.size + 1 + 1) 10 rfl [.bool true, .int .u64 (n1 : Int), .int .u64 (m1.clock : Int), .int .u64 (m1.b.1 : Int), .slice x1.b.eA x1.b.n x1.b.ec, .slice x1.b.gA x1.b.g x1.b.gc, .int .i64 m1.c.1, .int .u64 (m1.c.2.1 : Int), .slice x1.c.A x1.c.s x1.c.c, .bool a1] _ (hR2'.range_part 10 _ rfl) Tryz.underlying94 rfl (by exact size_held) ?_
        refine hK.out _ _ trivial ?_
        clear hK K
        simp only [pA, pB, pC, Act.put, pD, pE, pF]
        refine plan_make_of rfl (by rfl) (fun K hK => ?_)
        refine hR1'.wp_store 94 (.tmp 3) (.tmp 38) rfl rfl [.bool true, .int .u64 (n1 : Int), .int .u64 (m1.clock : Int), .int .u64 (m1.b.1 : Int), .slice x1.b.eA x1.b.n x1.b.ec, .slice x1.b.gA x1.b.g x1.b.gc, .int .i64 m1.c.1, .int .u64 (m1.c.2.1 : Int), .slice x1.c.A x1.c.s x1.c.c, .bool a1] rfl (by exact size_held) rfl (one_held true n1 x1 m1 a1) ?_
        refine hK.out _ _ trivial ?_
        clear hK K
        simp only [pA, pB, pC, Act.put, pD, pE, pF]
        refine plan_done ?_
        go_wp2_with fail
        refine bodyPost_ret (results_tmp_row (p := 3) (u := 2) (ty := 94) (by rfl) _ _ (w.heap.size + 1) 94 _ _ (by rfl) (by exact hR1'.setRow _) Tryz.underlying94 (by rfl) (by exact size_held)) (by rfl) ?_
        have hO9 := (Only.refl (w.heap.size + 1) wv).setRow [.bool true, .int .u64 (n1 : Int), .int .u64 (m1.clock : Int), .int .u64 (m1.b.1 : Int), .slice x1.b.eA x1.b.n x1.b.ec, .slice x1.b.gA x1.b.g x1.b.gc, .int .i64 m1.c.1, .int .u64 (m1.c.2.1 : Int), .slice x1.c.A x1.c.s x1.c.c, .bool a1].toArray
        have HF := HFF.out
        rw [HG.out] at HF
        exact ⟨1, true, n1, x1, m1, a1, rfl, hI'.at_only hO9 ho1 (Nat.zero_le _) (by omega), ho1.mono (Nat.le_refl _) (by omega), hnum1, .inr rfl, (fun h => by first | exact HF.1 h | cases h), (fun h => by first | exact HF.2 h | exact HF.2 trivial), below_setRow hB' (by omega) _⟩
      · have HFF := Lib.hid (new_zero HD0.out HD1.out rfl (.inr hlt))
        have i1 : ¬ (n0 : Int) < (n1 : Int) := by omega
        clear hlt
        go_upto_region 9 with fail
        have hR2' : Row W9.drew (w.heap.size + 1 + 1) 147 [.bool true, .int .u64 (n0 : Int), .int .u64 (m0.clock : Int), .int .u64 (m0.b.1 : Int), .slice x0.b.eA x0.b.n x0.b.ec, .slice x0.b.gA x0.b.g x0.b.gc, .int .i64 m0.c.1, .int .u64 (m0.c.2.1 : Int), .slice x0.c.A x0.c.s x0.c.c, .bool a0, .bool true, .int .u64 (n1 : Int), .int .u64 (m1.clock : Int), .int .u64 (m1.b.1 : Int), .slice x1.b.eA x1.b.n x1.b.ec, .slice x1.b.gA x1.b.g x1.b.gc, .int .i64 m1.c.1, .int .u64 (m1.c.2.1 : Int), .slice x1.c.A x1.c.s x1.c.c, .bool a1] := hR2
        have hR1' := hR1.drew
        have hB' := hB.drew
        have hI' := hI0.keep ((Below.refl _ W9).drew)
        refine wp_region_plan_of (fun _ => True) (.step 0 false (.step 2 false (.step 1 true (.step 3 true (.nil))))) trivial (by kernel_rfl) (by kernel_rfl) (by rfl) (by kernel_rfl) ?_
        clear hR2 hR1 hB hI0 hI1
        generalize W9.drew = wv at *
        iterate 2 (refine plan_read rfl (by rfl) (v := ?_) ?_ ?_; rotate_left 1; (intro W hW; go_simp <;> with_reducible rfl); simp only [pA, pB, pC, Act.put, pD, pE, pF])
        refine plan_make_of rfl (by rfl) (fun K hK => ?_)
        refine wp_load_mid 94 (.tmp 39) rfl (w.heap.size + 1 + 1) 0 rfl [.bool true, .int .u64 (n0 : Int), .int .u64 (m0.clock : Int), .int .u64 (m0.b.1 : Int), .slice x0.b.eA x0.b.n x0.b.ec, .slice x0.b.gA x0.b.g x0.b.gc, .int .i64 m0.c.1, .int .u64 (m0.c.2.1 : Int), .slice x0.c.A x0.c.s x0.c.c, .bool a0] _ (hR2'.range_part 0 _ rfl) Tryz.underlying94 rfl (by exact size_held) ?_
        refine hK.out _ _ trivial ?_
        clear hK K
        simp only [pA, pB, pC, Act.put, pD, pE, pF]
        refine plan_make_of rfl (by rfl) (fun K hK => ?_)
        refine hR1'.wp_store 94 (.tmp 3) (.tmp 40) rfl rfl [.bool true, .int .u64 (n0 : Int), .int .u64 (m0.clock : Int), .int .u64 (m0.b.1 : Int), .slice x0.b.eA x0.b.n x0.b.ec, .slice x0.b.gA x0.b.g x0.b.gc, .int .i64 m0.c.1, .int .u64 (m0.c.2.1 : Int), .slice x0.c.A x0.c.s x0.c.c, .bool a0] rfl (by exact size_held) rfl (one_held true n0 x0 m0 a0) ?_
        refine hK.out _ _ trivial ?_
        clear hK K
        simp only [pA, pB, pC, Act.put, pD, pE, pF]
        refine plan_done ?_
        go_wp2_with fail
        refine bodyPost_ret (results_tmp_row (p := 3) (u := 2) (ty := 94) (by rfl) _ _ (w.heap.size + 1) 94 _ _ (by rfl) (by exact hR1'.setRow _) Tryz.underlying94 (by rfl) (by exact size_held)) (by rfl) ?_
        have hO9 := (Only.refl (w.heap.size + 1) wv).setRow [.bool true, .int .u64 (n0 : Int), .int .u64 (m0.clock : Int), .int .u64 (m0.b.1 : Int), .slice x0.b.eA x0.b.n x0.b.ec, .slice x0.b.gA x0.b.g x0.b.gc, .int .i64 m0.c.1, .int .u64 (m0.c.2.1 : Int), .slice x0.c.A x0.c.s x0.c.c, .bool a0].toArray
        have HF : (true = false → G = none) ∧ (true = true → ∃ z, G = some (0, n0, m0, z) ∧ (a0 = true ↔ z = D.a0.b.length)) := ⟨(fun h => by cases h), fun _ => by have := HFF.out; rw [HG.out] at this; exact this⟩
        exact ⟨0, true, n0, x0, m0, a0, rfl, hI'.at_only hO9 ho0 (Nat.zero_le _) (by omega), ho0.mono (Nat.le_refl _) (by omega), hnum0, .inl rfl, (fun h => by first | exact HF.1 h | cases h), (fun h => by first | exact HF.2 h | exact HF.2 trivial), below_setRow hB' (by omega) _⟩
end Go.Proofs.YteppocjgodmpdaaGreatDoor
namespace Go.Proofs.YteppocjgodmpdaaGreatDoor
open Go.RowKit
structure OffD (lo hi : Nat) (x : WD) : Prop where
  a : x.n0 ≠ 0 → ∀ a, x.A0 = some a → a.block < lo ∨ hi ≤ a.block
  b : x.n1 ≠ 0 → ∀ a, x.A1 = some a → a.block < lo ∨ hi ≤ a.block
structure OffS (lo hi : Nat) (x : WS) : Prop where
  d : OffD lo hi x.d
  m : OffM lo hi x.m
section
variable {lo hi lo' hi' : Nat} {w W : World}
theorem OffD.mono {x : WD} (h : OffD lo hi x) (hl : lo ≤ lo') (hh : hi' ≤ hi) : OffD lo' hi' x := ⟨fun h0 a ha => by have := h.a h0 a ha; omega, fun h0 a ha => by have := h.b h0 a ha; omega⟩
theorem OffS.mono {x : WS} (h : OffS lo hi x) (hl : lo ≤ lo') (hh : hi' ≤ hi) : OffS lo' hi' x := ⟨h.d.mono hl hh, h.m.mono hl hh⟩
theorem FreshD.off {B : Nat} {x : WD} (h : FreshD B x) (lo : Nat) : OffD lo B x := ⟨fun _ a ha => .inr (h.1 a ha), fun _ a ha => .inr (h.2 a ha)⟩
theorem InD.off {x : WD} {D : DK} (h : InD w x D) (hi : Nat) : OffD w.heap.size hi x :=
  ⟨fun h0 a ha => .inl (h.r0.off (by intro e; exact h0 (by rw [← h.l0, e]; rfl)) a ha), fun h0 a ha => .inl (h.r1.off (by intro e; exact h0 (by rw [← h.l1, e]; rfl)) a ha)⟩
theorem InS.off {x : WS} {s : ShK} (h : InS w x s) (hi : Nat) : OffS w.heap.size hi x := ⟨h.id.off hi, h.im.off hi⟩
theorem InD.agree {x : WD} {D : DK} (h : InD w x D) (k : Agree lo hi w W) (ho : OffD lo hi x) : InD W x D :=
  ⟨h.l0, h.h0, h.r0.agree k (fun hn => ho.a (by rw [← h.l0]; intro e; exact hn (List.eq_nil_of_length_eq_zero e))), h.l1, h.h1, h.r1.agree k (fun hn => ho.b (by rw [← h.l1]; intro e; exact hn (List.eq_nil_of_length_eq_zero e)))⟩
theorem InS.agree {x : WS} {s : ShK} (h : InS w x s) (k : Agree lo hi w W) (ho : OffS lo hi x) : InS W x s := ⟨h.id.agree k ho.d, h.im.agree k ho.m⟩
theorem InS.at_only {g : Nat} {x : WS} {s : ShK} (h : InS w x s) (k : Only g w W) (ho : OffS lo hi x) (hl : lo ≤ g) (hh : g < hi) : InS W x s := h.agree (Agree.of_only k hl hh) ho
theorem InD.at_only {g : Nat} {x : WD} {D : DK} (h : InD w x D) (k : Only g w W) (ho : OffD lo hi x) (hl : lo ≤ g) (hh : g < hi) : InD W x D := h.agree (Agree.of_only k hl hh) ho
end
def RetX (w : World) (s : ShK) (er : Int) (e : Ending) (w' : World) : Prop := ∃ x, e = .returned (.tuple #[aggS x s, .int .i64 er]) ∧ InS w' x s ∧ OffS 0 w.heap.size x ∧ Below w.heap.size w w'
theorem only_any (x : WD) (D : DK) (w : World) (h : InD w x D) (hn0 : x.n0 ≤ 70368744177664) (hn1 : x.n1 ≤ 70368744177664) :
    Calls Tryz.prog 38 #[aggD x D] w fun e w' => ∃ y, e = .returned (aggS ⟨y, zeroWM⟩ (onlyD D)) ∧ InD w' y D ∧ FreshD w.heap.size y ∧ Below w.heap.size w w' := by
  obtain ⟨hR0, hR1, hB⟩ := two_boxes w 27 39 (lD x D) l0S _ _ rfl rfl
  have HOW := Lib.hid (fun W (hb : Below w.heap.size w W) => own17_any x D W (h.keep hb) hn0 hn1)
  unfold aggD at HOW
  clear h
  unfold aggD
  go_enter Tryz.func38, Tryz.ntmps38
  go_upto_region 1 with fail
  generalize (w.alloc (.cells (lD x D).toArray 27)).alloc (.cells l0S.toArray 39) = W0 at hR0 hR1 hB ⊢
  have hlt := hR1.lt
  go_wp2_with (refine wpList_load_part rfl 27 (.tmp 1) rfl (w.heap.size) 0 rfl _ _ (hR0) ((lD x D)) (by rfl) _ Tryz.underlying27 rfl (by exact size_disk) ?_)
  refine (HOW.out _ hB).mono ?_
  rintro e w1 ⟨y, rfl, h20, h21, h22, h23, h24, h25, -, hb⟩
  obtain ⟨hyb, hyf⟩ := own_in (x := y) (D := D) h24 h25
  unfold aggD
  replace hR1 := hR1.later hb
  replace hB := below_step hB hb
  clear h20 h21 h22 h23 h24 h25 hb HOW hR0
  go_wp2_with (refine wpList_store_row rfl 39 (.tmp 2) (.tmp 5) rfl (w.heap.size + 1) rfl ([.slice y.A0 y.n0 y.c0, .int .i64 D.a0.s, .slice y.A1 y.n1 y.c1, .int .i64 D.a1.s, .int .i64 D.fuse, .int .i64 D.keep, .bool D.down, .int .i64 0, .int .u64 0, .int .u64 0, .int .u64 0, .slice none 0 0, .slice none 0 0, .int .i64 0, .int .u64 0, .slice none 0 0]) rfl _ _ (hR1) (by exact size_shelf) rfl (one_shelf ⟨y, zeroWM⟩ (onlyD D)) ?_)
  refine bodyPost_ret (results_cell_row (p := 2) (ty := 39) (by rfl) _ _ (w.heap.size + 1) 39 _ (0, 0) _ (by rfl) (by exact hR1.setRow _) Tryz.underlying39 (by rfl) (by exact size_shelf)) (by rfl) ?_
  have hO := (Only.refl (w.heap.size + 1) w1).setRow [.slice y.A0 y.n0 y.c0, .int .i64 D.a0.s, .slice y.A1 y.n1 y.c1, .int .i64 D.a1.s, .int .i64 D.fuse, .int .i64 D.keep, .bool D.down, .int .i64 0, .int .u64 0, .int .u64 0, .int .u64 0, .slice none 0 0, .slice none 0 0, .int .i64 0, .int .u64 0, .slice none 0 0].toArray
  exact ⟨y, rfl, hyb.only hO (hyf.mono (by omega)), hyf.mono (by omega), below_setRow hB (by omega) _⟩
def hasS (f : List UInt8 → List UInt8) (D : DK) : ShK × Int := match hasK f D with
  | none => (onlyD D, 7)
  | some x => (⟨D, (x.1 : Int), x.2.1, x.2.2.1⟩, 0)
theorem hasS_none {f : List UInt8 → List UInt8} {D : DK} (h : hasK f D = none) : hasS f D = (onlyD D, 7) := by unfold hasS; rw [h]
theorem hasS_some {f : List UInt8 → List UInt8} {D : DK} {k n z : Nat} {m : MemK} (h : hasK f D = some (k, n, m, z)) : hasS f D = (⟨D, (k : Int), n, m⟩, 0) := by unfold hasS; rw [h]
def hel8 (g : Nat) (b c d e f h i j : Value) (W : World) : Prop := W.cell? ⟨g, 1, none⟩ = some b ∧ (W.cell? ⟨g, 2, none⟩ = some c ∧ (W.cell? ⟨g, 3, none⟩ = some d ∧ (W.cell? ⟨g, 4, none⟩ = some e ∧ (W.cell? ⟨g, 5, none⟩ = some f ∧ (W.cell? ⟨g, 6, none⟩ = some h ∧ (W.cell? ⟨g, 7, none⟩ = some i ∧ W.cell? ⟨g, 8, none⟩ = some j))))))
theorem hel8_of {g : Nat} {t : TypeId} {a b c d e f h i j k : Value} {W : World} (hX : Row W g t [a, b, c, d, e, f, h, i, j, k]) : hel8 g b c d e f h i j W := ⟨hX.cell rfl, hX.cell rfl, hX.cell rfl, hX.cell rfl, hX.cell rfl, hX.cell rfl, hX.cell rfl, hX.cell rfl⟩
set_option maxHeartbeats 16000000 in
theorem has_any [Inhabited Tab] (x : WD) (D : DK) (w : World) (h : InD w x D) (hn0 : x.n0 ≤ 1000000000) (hn1 : x.n1 ≤ 1000000000) (HK : Hid (KTab w)) :
    Calls Tryz.prog 11 #[aggD x D] w (RetX w (hasS fS D).1 (hasS fS D).2) := by
  obtain ⟨hR0, hR1, hB⟩ := two_boxes w 27 39 (lD x D) l0S _ _ rfl rfl
  have HON := Lib.hid (fun W (hb : Below w.heap.size w W) => only_any x D W (h.keep hb) (by omega) (by omega))
  have HNW := Lib.hid (fun W (hb : Below w.heap.size w W) => newest_any x D W (h.keep hb) hn0 hn1 (Lib.hid (HK.out.keep hb)))
  unfold aggD at HON HNW
  clear h
  unfold aggD
  go_enter Tryz.func11, Tryz.ntmps11
  go_upto_region 1 with fail
  generalize (w.alloc (.cells (lD x D).toArray 27)).alloc (.cells l0S.toArray 39) = W0 at hR0 hR1 hB ⊢
  have hlt := hR1.lt
  go_wp2_with (refine wpList_load_part rfl 27 (.tmp 1) rfl (w.heap.size) 0 rfl _ _ (hR0) ((lD x D)) (by rfl) _ Tryz.underlying27 rfl (by exact size_disk) ?_)
  refine (HON.out _ hB).mono ?_
  rintro e w1 ⟨y, rfl, hy, hyf, hb⟩
  unfold aggS onlyD zeroMem zeroWM zeroWB zeroWC
  dsimp only
  replace hR0 := hR0.later hb
  replace hR1 := hR1.later hb
  replace hB := below_step hB hb
  have hs1 := hb.size
  obtain ⟨hR4, hB4⟩ := box_of w1 39 l0S _ rfl
  clear hb HON
  go_upto_region 2 with (refine wpList_store_row rfl 39 (.tmp 4) (.tmp 8) rfl (w1.heap.size) rfl ([.slice y.A0 y.n0 y.c0, .int .i64 D.a0.s, .slice y.A1 y.n1 y.c1, .int .i64 D.a1.s, .int .i64 D.fuse, .int .i64 D.keep, .bool D.down, .int .i64 0, .int .u64 0, .int .u64 0, .int .u64 0, .slice none 0 0, .slice none 0 0, .int .i64 0, .int .u64 0, .slice none 0 0]) rfl _ _ (hR4) (by exact size_shelf) rfl (one_shelf ⟨y, zeroWM⟩ (onlyD D)) ?_)
  have hR42 := hR4.setRow [.slice y.A0 y.n0 y.c0, .int .i64 D.a0.s, .slice y.A1 y.n1 y.c1, .int .i64 D.a1.s, .int .i64 D.fuse, .int .i64 D.keep, .bool D.down, .int .i64 0, .int .u64 0, .int .u64 0, .int .u64 0, .slice none 0 0, .slice none 0 0, .int .i64 0, .int .u64 0, .slice none 0 0]
  have hbn := below_setRow hB4 (Nat.le_refl _) [.slice y.A0 y.n0 y.c0, .int .i64 D.a0.s, .slice y.A1 y.n1 y.c1, .int .i64 D.a1.s, .int .i64 D.fuse, .int .i64 D.keep, .bool D.down, .int .i64 0, .int .u64 0, .int .u64 0, .int .u64 0, .slice none 0 0, .slice none 0 0, .int .i64 0, .int .u64 0, .slice none 0 0].toArray
  clear hR4 hB4
  generalize (w1.alloc (.cells l0S.toArray 39)).setRow w1.heap.size [.slice y.A0 y.n0 y.c0, .int .i64 D.a0.s, .slice y.A1 y.n1 y.c1, .int .i64 D.a1.s, .int .i64 D.fuse, .int .i64 D.keep, .bool D.down, .int .i64 0, .int .u64 0, .int .u64 0, .int .u64 0, .slice none 0 0, .slice none 0 0, .int .i64 0, .int .u64 0, .slice none 0 0].toArray = w2 at hR42 hbn ⊢
  replace hR0 := hR0.later hbn
  replace hR1 := hR1.later hbn
  have hyg : OffD w1.heap.size (w1.heap.size + 1) y := hy.off _
  replace hy := hy.keep hbn
  replace hB := below_step hB hbn
  clear hbn
  have hg4 : w.heap.size + 1 < w1.heap.size := by omega
  generalize w1.heap.size = g4 at hR42 hg4 hyg ⊢
  go_wp2_with (refine wpList_load_part rfl 27 (.tmp 1) rfl (w.heap.size) 0 rfl _ _ (hR0) ((lD x D)) (by rfl) _ Tryz.underlying27 rfl (by exact size_disk) ?_)
  refine (HNW.out _ hB).mono ?_
  rintro e w3 ⟨t, s, num, xm, m, a, rfl, hI, ho, hnum, ht, hs0, hs1', hb⟩
  have hl4 := hR42.lt
  replace hR1 := hR1.later hb
  replace hR42 := hR42.later hb
  replace hy := hy.keep hb
  replace hB := below_step hB hb
  have hs3 := hb.size
  obtain ⟨hR6, hB6⟩ := box_of w3 94 [.bool false, .int .u64 0, .int .u64 0, .int .u64 0, .slice none 0 0, .slice none 0 0, .int .i64 0, .int .u64 0, .slice none 0 0, .bool false] _ rfl
  clear hb HNW hR0
  go_upto_region 3 with (refine wpList_store_row rfl 94 (.tmp 6) (.tmp 13) rfl (w3.heap.size) rfl ([.bool s, .int .u64 (num : Int), .int .u64 (m.clock : Int), .int .u64 (m.b.1 : Int), .slice xm.b.eA xm.b.n xm.b.ec, .slice xm.b.gA xm.b.g xm.b.gc, .int .i64 m.c.1, .int .u64 (m.c.2.1 : Int), .slice xm.c.A xm.c.s xm.c.c, .bool a]) rfl _ _ (hR6) (by exact size_held) rfl (one_held s num xm m a) ?_)
  have hR62 := hR6.setRow [.bool s, .int .u64 (num : Int), .int .u64 (m.clock : Int), .int .u64 (m.b.1 : Int), .slice xm.b.eA xm.b.n xm.b.ec, .slice xm.b.gA xm.b.g xm.b.gc, .int .i64 m.c.1, .int .u64 (m.c.2.1 : Int), .slice xm.c.A xm.c.s xm.c.c, .bool a]
  have hbn := below_setRow hB6 (Nat.le_refl _) [.bool s, .int .u64 (num : Int), .int .u64 (m.clock : Int), .int .u64 (m.b.1 : Int), .slice xm.b.eA xm.b.n xm.b.ec, .slice xm.b.gA xm.b.g xm.b.gc, .int .i64 m.c.1, .int .u64 (m.c.2.1 : Int), .slice xm.c.A xm.c.s xm.c.c, .bool a].toArray
  clear hR6 hB6
  generalize (w3.alloc (.cells #[.bool false, .int .u64 0, .int .u64 0, .int .u64 0, .slice none 0 0, .slice none 0 0, .int .i64 0, .int .u64 0, .slice none 0 0, .bool false] 94)).setRow w3.heap.size [.bool s, .int .u64 (num : Int), .int .u64 (m.clock : Int), .int .u64 (m.b.1 : Int), .slice xm.b.eA xm.b.n xm.b.ec, .slice xm.b.gA xm.b.g xm.b.gc, .int .i64 m.c.1, .int .u64 (m.c.2.1 : Int), .slice xm.c.A xm.c.s xm.c.c, .bool a].toArray = w4 at hR62 hbn ⊢
  replace hR1 := hR1.later hbn
  replace hR42 := hR42.later hbn
  replace hy := hy.keep hbn
  replace hI := hI.keep hbn
  replace hB := below_step hB hbn
  clear hbn
  have hg6 : g4 < w3.heap.size := by omega
  have hog : OffM 0 (g4 + 1) xm := ho.mono (Nat.le_refl _) (by omega)
  generalize w3.heap.size = g6 at hR62 hg6 ⊢
  have k0 := hR62.cell (i := 0) rfl
  have hoy : OffD 0 w.heap.size y := (hyf.off 0).mono (Nat.le_refl _) (by omega)
  have hoy2 : OffD 0 (w.heap.size + 2) y := (hyf.off 0).mono (Nat.le_refl _) (by omega)
  cases s with
  | false =>
    have HR := Lib.hid (hasS_none (hs0.out rfl))
    clear hs0 hs1'
    go_wp2_with (first
      | (refine wpList_load_part rfl 39 (.tmp 4) rfl (g4) 0 rfl _ _ (hR42) ([.slice y.A0 y.n0 y.c0, .int .i64 D.a0.s, .slice y.A1 y.n1 y.c1, .int .i64 D.a1.s, .int .i64 D.fuse, .int .i64 D.keep, .bool D.down, .int .i64 0, .int .u64 0, .int .u64 0, .int .u64 0, .slice none 0 0, .slice none 0 0, .int .i64 0, .int .u64 0, .slice none 0 0]) (by rfl) _ Tryz.underlying39 rfl (by exact size_shelf) ?_)
      | (refine wpList_store_row rfl 39 (.tmp 2) (.tmp 17) rfl (w.heap.size + 1) rfl ([.slice y.A0 y.n0 y.c0, .int .i64 D.a0.s, .slice y.A1 y.n1 y.c1, .int .i64 D.a1.s, .int .i64 D.fuse, .int .i64 D.keep, .bool D.down, .int .i64 0, .int .u64 0, .int .u64 0, .int .u64 0, .slice none 0 0, .slice none 0 0, .int .i64 0, .int .u64 0, .slice none 0 0]) rfl _ _ (hR1) (by exact size_shelf) rfl (one_shelf ⟨y, zeroWM⟩ (onlyD D)) ?_))
    refine bodyPost_ret (results_row_tmp (p := 2) (u := 3) (ty := 39) (by rfl) _ _ (w.heap.size + 1) 39 _ _ (by rfl) (by exact hR1.setRow _) Tryz.underlying39 (by rfl) (by exact size_shelf)) (by rfl) ?_
    have hO := (Only.refl (w.heap.size + 1) w4).setRow [.slice y.A0 y.n0 y.c0, .int .i64 D.a0.s, .slice y.A1 y.n1 y.c1, .int .i64 D.a1.s, .int .i64 D.fuse, .int .i64 D.keep, .bool D.down, .int .i64 0, .int .u64 0, .int .u64 0, .int .u64 0, .slice none 0 0, .slice none 0 0, .int .i64 0, .int .u64 0, .slice none 0 0].toArray
    rw [HR.out]
    exact ⟨⟨y, zeroWM⟩, rfl, ⟨hy.at_only hO hoy2 (Nat.zero_le _) (by omega), zeroM_in _⟩, ⟨hoy, (zeroM_fresh _).off 0⟩, below_setRow hB (by omega) _⟩
  | true =>
    have HR := Lib.hid (hs1'.out rfl)
    clear hs0 hs1'
    go_upto_region 5 with fail
    have hS := hel8_of (W := w4.drew) (show Row w4.drew g6 94 [.bool true, .int .u64 (num : Int), .int .u64 (m.clock : Int), .int .u64 (m.b.1 : Int), .slice xm.b.eA xm.b.n xm.b.ec, .slice xm.b.gA xm.b.g xm.b.gc, .int .i64 m.c.1, .int .u64 (m.c.2.1 : Int), .slice xm.c.A xm.c.s xm.c.c, .bool a] from hR62)
    have hR6' := hR62.drew
    have hR4' := hR42.drew
    have hR1' := hR1.drew
    have hB' := hB.drew
    have hy' := hy.keep ((Below.refl _ w4).drew)
    have hI' := hI.keep ((Below.refl _ w4).drew)
    refine wp_region_plan_of (hel8 g6 (.int .u64 (num : Int)) (.int .u64 (m.clock : Int)) (.int .u64 (m.b.1 : Int)) (.slice xm.b.eA xm.b.n xm.b.ec) (.slice xm.b.gA xm.b.g xm.b.gc) (.int .i64 m.c.1) (.int .u64 (m.c.2.1 : Int)) (.slice xm.c.A xm.c.s xm.c.c)) (.step 0 false (.step 1 false (.step 2 false (.step 3 false (.step 4 false (.step 5 false (.step 6 true (.step 7 false (.step 8 true (.step 9 false (.step 10 true (.nil)))))))))))) hS (by kernel_rfl) (by kernel_rfl) (by rfl) (by kernel_rfl) ?_
    clear hR62 hR42 hR1 hB hy hI k0
    generalize w4.drew = wv at *
    iterate 6 (refine plan_read rfl (by rfl) (v := ?_) ?_ ?_; rotate_left 1; (rintro W ⟨hW0, hW1⟩; go_simp <;> with_reducible rfl); simp only [pA, pB, pC, Act.put, pD, pE, pF])
    have f7 := hR4'.frozen 7
    have c7 : wv.cell? ⟨g4, 7, none⟩ = some (.int .i64 0) := hR4'.cell rfl
    have hO := (Only.refl g4 wv).setCell 7 (.int .i64 t)
    have hR45 : Row (wv.setCell ⟨g4, 7, none⟩ (.int .i64 t)) g4 39 [.slice y.A0 y.n0 y.c0, .int .i64 D.a0.s, .slice y.A1 y.n1 y.c1, .int .i64 D.a1.s, .int .i64 D.fuse, .int .i64 D.keep, .bool D.down, .int .i64 t, .int .u64 0, .int .u64 0, .int .u64 0, .slice none 0 0, .slice none 0 0, .int .i64 0, .int .u64 0, .slice none 0 0] := hR4'.setCell 7 _
    have hR65 := hR6'.only hO (by omega)
    refine plan_make_of rfl (by rfl) (fun K hK => ?_)
    go_simp
    refine hK.out _ _ (hel8_of hR65) ?_
    clear hK K
    have hR15 := hR1'.only hO (by omega)
    have hB5 := hB'.trans (hO.below.mono (by omega))
    have hy5 := hy'.at_only hO hyg (Nat.le_refl _) (Nat.lt_succ_self _)
    have hI5 := hI'.at_only hO hog (Nat.zero_le _) (Nat.lt_succ_self _)
    clear f7 c7 hO hR4' hR6' hR1' hB' hy' hI' hS
    generalize wv.setCell ⟨g4, 7, none⟩ (.int .i64 t) = w5 at *
    have hS5 := hel8_of hR65
    iterate 1 (refine plan_read rfl (by rfl) (v := ?_) ?_ ?_; rotate_left 1; (rintro W ⟨hW0, hW1⟩; go_simp <;> with_reducible rfl); simp only [pA, pB, pC, Act.put, pD, pE, pF])
    have f8 := hR45.frozen 8
    have c8 : w5.cell? ⟨g4, 8, none⟩ = some (.int .u64 0) := hR45.cell rfl
    have hO := (Only.refl g4 w5).setCell 8 (.int .u64 (num : Int))
    have hR46 : Row (w5.setCell ⟨g4, 8, none⟩ (.int .u64 (num : Int))) g4 39 [.slice y.A0 y.n0 y.c0, .int .i64 D.a0.s, .slice y.A1 y.n1 y.c1, .int .i64 D.a1.s, .int .i64 D.fuse, .int .i64 D.keep, .bool D.down, .int .i64 t, .int .u64 (num : Int), .int .u64 0, .int .u64 0, .slice none 0 0, .slice none 0 0, .int .i64 0, .int .u64 0, .slice none 0 0] := hR45.setCell 8 _
    have hR66 := hR65.only hO (by omega)
    refine plan_make_of rfl (by rfl) (fun K hK => ?_)
    go_simp
    refine hK.out _ _ (hel8_of hR66) ?_
    clear hK K
    have hR16 := hR15.only hO (by omega)
    have hB6 := hB5.trans (hO.below.mono (by omega))
    have hy6 := hy5.at_only hO hyg (Nat.le_refl _) (Nat.lt_succ_self _)
    have hI6 := hI5.at_only hO hog (Nat.zero_le _) (Nat.lt_succ_self _)
    clear f8 c8 hO hR45 hR65 hR15 hB5 hy5 hI5 hS5
    generalize w5.setCell ⟨g4, 8, none⟩ (.int .u64 (num : Int)) = w6 at *
    have hS6 := hel8_of hR66
    iterate 1 (refine plan_read rfl (by rfl) (v := ?_) ?_ ?_; rotate_left 1; (rintro W ⟨hW0, hW1⟩; go_simp <;> with_reducible rfl); simp only [pA, pB, pC, Act.put, pD, pE, pF])
    refine plan_make_of rfl (by rfl) (fun K hK => ?_)
    refine wp_store_mid 37 (.tmp 25) (.tmp 22) rfl g4 9 (lM xm m).toArray rfl rfl (there_of hR46 9 7 (by simp)) (by exact size_memory) (by exact all_oneCell_toArray (one_memory xm m)) ?_
    have hO := Only.setCells (g := g4) (lM xm m) 9 (Only.refl _ w6)
    refine hK.out _ _ (hel8_of (hR66.only hO (by omega))) ?_
    clear hK K
    have hR47 : Row (w6.setCells g4 9 (lM xm m)) g4 39 [.slice y.A0 y.n0 y.c0, .int .i64 D.a0.s, .slice y.A1 y.n1 y.c1, .int .i64 D.a1.s, .int .i64 D.fuse, .int .i64 D.keep, .bool D.down, .int .i64 t, .int .u64 (num : Int), .int .u64 (m.clock : Int), .int .u64 (m.b.1 : Int), .slice xm.b.eA xm.b.n xm.b.ec, .slice xm.b.gA xm.b.g xm.b.gc, .int .i64 m.c.1, .int .u64 (m.c.2.1 : Int), .slice xm.c.A xm.c.s xm.c.c] := hR46.setCells _ 9 (by simp)
    have hR17 := hR16.only hO (by omega)
    have hB7 := hB6.trans (hO.below.mono (by omega))
    have hy7 := hy6.at_only hO hyg (Nat.le_refl _) (Nat.lt_succ_self _)
    have hI7 := hI6.at_only hO hog (Nat.zero_le _) (Nat.lt_succ_self _)
    clear hO hR46 hR66 hR16 hB6 hy6 hI6 hS6
    generalize w6.setCells g4 9 (lM xm m) = w7 at *
    refine plan_done ?_
    go_wp2_with (first
      | (refine wpList_load_part rfl 39 (.tmp 4) rfl (g4) 0 rfl _ _ (hR47) ([.slice y.A0 y.n0 y.c0, .int .i64 D.a0.s, .slice y.A1 y.n1 y.c1, .int .i64 D.a1.s, .int .i64 D.fuse, .int .i64 D.keep, .bool D.down, .int .i64 t, .int .u64 (num : Int), .int .u64 (m.clock : Int), .int .u64 (m.b.1 : Int), .slice xm.b.eA xm.b.n xm.b.ec, .slice xm.b.gA xm.b.g xm.b.gc, .int .i64 m.c.1, .int .u64 (m.c.2.1 : Int), .slice xm.c.A xm.c.s xm.c.c]) (by rfl) _ Tryz.underlying39 rfl (by exact size_shelf) ?_)
      | (refine wpList_store_row rfl 39 (.tmp 2) (.tmp 26) rfl (w.heap.size + 1) rfl ([.slice y.A0 y.n0 y.c0, .int .i64 D.a0.s, .slice y.A1 y.n1 y.c1, .int .i64 D.a1.s, .int .i64 D.fuse, .int .i64 D.keep, .bool D.down, .int .i64 t, .int .u64 (num : Int), .int .u64 (m.clock : Int), .int .u64 (m.b.1 : Int), .slice xm.b.eA xm.b.n xm.b.ec, .slice xm.b.gA xm.b.g xm.b.gc, .int .i64 m.c.1, .int .u64 (m.c.2.1 : Int), .slice xm.c.A xm.c.s xm.c.c]) rfl _ _ (hR17) (by exact size_shelf) rfl (one_shelf ⟨y, xm⟩ ⟨D, t, num, m⟩) ?_))
    refine bodyPost_ret (results_row_tmp (p := 2) (u := 3) (ty := 39) (by rfl) _ _ (w.heap.size + 1) 39 _ _ (by rfl) (by exact hR17.setRow _) Tryz.underlying39 (by rfl) (by exact size_shelf)) (by rfl) ?_
    have hO := (Only.refl (w.heap.size + 1) w7).setRow [.slice y.A0 y.n0 y.c0, .int .i64 D.a0.s, .slice y.A1 y.n1 y.c1, .int .i64 D.a1.s, .int .i64 D.fuse, .int .i64 D.keep, .bool D.down, .int .i64 t, .int .u64 (num : Int), .int .u64 (m.clock : Int), .int .u64 (m.b.1 : Int), .slice xm.b.eA xm.b.n xm.b.ec, .slice xm.b.gA xm.b.g xm.b.gc, .int .i64 m.c.1, .int .u64 (m.c.2.1 : Int), .slice xm.c.A xm.c.s xm.c.c].toArray
    obtain ⟨z, hz, _⟩ := HR.out
    have htt : ((t.toNat : Nat) : Int) = t := by rcases ht with h | h <;> rw [h] <;> rfl
    rw [hasS_some hz, htt]
    exact ⟨⟨y, xm⟩, rfl, ⟨hy7.at_only hO hoy2 (Nat.zero_le _) (by omega), hI7.at_only hO hog (Nat.zero_le _) (by omega)⟩, ⟨hoy, hog.mono (Nat.le_refl _) (by omega)⟩, below_setRow hB7 (by omega) _⟩
end Go.Proofs.YteppocjgodmpdaaGreatDoor
namespace Go.Proofs.YteppocjgodmpdaaGreatDoor
open Go.RowKit
structure LimK (D : DK) : Prop where
  a0 : D.a0.b.length ≤ 70368744177664
  a1 : D.a1.b.length ≤ 70368744177664
  fu : D.fuse ≤ 9223372036854775807
  ke : D.keep ≤ 9223372036854775807
theorem InD.n0 {w : World} {x : WD} {D : DK} (h : InD w x D) (l : LimK D) : x.n0 ≤ 70368744177664 := by rw [← h.l0]; exact l.a0
theorem InD.n1 {w : World} {x : WD} {D : DK} (h : InD w x D) (l : LimK D) : x.n1 ≤ 70368744177664 := by rw [← h.l1]; exact l.a1
theorem step_lim {D : DK} {k : Int} {full : Nat → Bool} {goes done : Nat → AK → AK} (h : (stepD D k full goes done).2 = 0) (l : LimK D) (hd : ∀ j, full j = false → (done j (getA D j)).b.length ≤ 70368744177664) : LimK (stepD D k full goes done).1 := by
  unfold stepD at h ⊢
  split at h
  · exact absurd h (by show ¬ (1 : Int) = 0; decide)
  · rename_i h1
    rw [if_neg h1]
    split at h
    · exact absurd h (by show ¬ (14 : Int) = 0; decide)
    · rename_i h2
      rw [if_neg h2]
      split at h
      · exact absurd h (by show ¬ (12 : Int) = 0; decide)
      · rename_i h3
        rw [if_neg h3]
        split at h
        · exact absurd h (by show ¬ (14 : Int) = 0; decide)
        · rename_i h4
          rw [if_neg h4]
          have hl := hd k.toNat (by simpa using h3)
          have hfu : burn D.fuse ≤ 9223372036854775807 := by
            have := l.fu
            unfold burn
            split <;> omega
          dsimp only
          unfold setA
          split
          · exact ⟨by rename_i hk; rw [hk] at hl; simpa [hk] using hl, l.a1, hfu, l.ke⟩
          · rename_i hk
            exact ⟨l.a0, hl, hfu, l.ke⟩
structure Stp where
  F : Nat
  caps : Array Value
  h : DK → DK × Int
def vStp (t : Stp) : Value := .func (.func t.F) #[] t.caps
structure DoS (w : World) (t : Stp) : Prop where
  en : ∀ args W, (callFunc t.F args).run Tryz.prog W = .ok (.enter t.F args) W
  ca : ∀ (x : WD) (D : DK) (W : World), Below w.heap.size w W → InD W x D → LimK D → Calls Tryz.prog t.F (#[aggD x D] ++ t.caps) W (RetD W (t.h D).1 (t.h D).2)
  li : ∀ D, LimK D → (t.h D).2 = 0 → LimK (t.h D).1
theorem DoS.later {w w' : World} {t : Stp} (h : DoS w t) (hb : Below w.heap.size w w') : DoS w' t := ⟨h.en, fun x D W hW hi hl => h.ca x D W (below_step hb hW) hi hl, h.li⟩
def wipeT (b : Nat) (k : Int) : Stp := ⟨155, #[.pointer (some ⟨b, 0, none⟩)], fun D => wipeD D k⟩
def syncT (b : Nat) (k : Int) : Stp := ⟨160, #[.pointer (some ⟨b, 0, none⟩)], fun D => syncD D k⟩
def writeT (b : Nat) (k : Int) (c : List UInt8) : Stp := ⟨157, #[.pointer (some ⟨b, 0, none⟩), .pointer (some ⟨b + 1, 0, none⟩)], fun D => writeD D k c⟩
theorem wipe_lim {D : DK} {k : Int} (l : LimK D) (h : (wipeD D k).2 = 0) : LimK (wipeD D k).1 := step_lim h l (fun j _ => by show 0 ≤ _; omega)
theorem getA_lim {D : DK} (l : LimK D) (j : Nat) : (getA D j).b.length ≤ 70368744177664 := by
  unfold getA
  split
  · exact l.a0
  · exact l.a1
theorem sync_lim {D : DK} {k : Int} (l : LimK D) (h : (syncD D k).2 = 0) : LimK (syncD D k).1 := step_lim h l (fun j _ => getA_lim l j)
theorem write_lim {D : DK} {k : Int} {c : List UInt8} (l : LimK D) (h : (writeD D k c).2 = 0) : LimK (writeD D k c).1 := step_lim h l (fun j hj => by
  have := of_decide_eq_false hj
  show ((getA D j).b ++ c).length ≤ _
  rw [List.length_append]
  omega)
theorem wipe1_any (b : Nat) (k : Int) (x : WD) (D : DK) (w : World) (hc : w.cell? ⟨b, 0, none⟩ = some (.int .i64 k)) (h : InD w x D) (l : LimK D) :
    Calls Tryz.prog 155 #[aggD x D, .pointer (some ⟨b, 0, none⟩)] w (RetD w (wipeD D k).1 (wipeD D k).2) := by
  obtain ⟨hR0, hR1, hB⟩ := two_boxes w 27 27 (lD x D) l0D _ _ rfl rfl
  have HC := Lib.hid (fun W (hb : Below w.heap.size w W) => wipe17_any x D k W (h.keep hb) (h.n0 l) (h.n1 l) l.fu l.ke)
  unfold aggD at HC
  have hbl := World.block_lt_of_cell? w _ hc
  obtain ⟨P, hP⟩ : ∃ P, wipeD D k = P := ⟨_, rfl⟩
  rw [hP] at HC ⊢
  clear h l hP
  unfold aggD
  go_enter Tryz.func155, Tryz.ntmps155
  go_upto_region 1 with fail
  have hc1 := (hB.cell (p := ⟨b, 0, none⟩) hbl).trans hc
  clear hc hbl
  generalize (w.alloc (.cells (lD x D).toArray 27)).alloc (.cells l0D.toArray 27) = W0 at hR0 hR1 hB hc1 ⊢
  go_wp2_with (refine wpList_load_part rfl 27 (.tmp 2) rfl (w.heap.size) 0 rfl _ _ (hR0) ((lD x D)) (by rfl) _ Tryz.underlying27 rfl (by exact size_disk) ?_)
  refine (HC.out _ hB).mono ?_
  rintro e w1 ⟨y, rfl, hy, hyf, hb⟩
  obtain ⟨D', er⟩ := P
  unfold aggD
  have hl0 := hR1.lt
  replace hR1 := hR1.later hb
  replace hB := below_step hB hb
  clear hb HC hR0 hc1
  dsimp only at hy ⊢
  go_wp2_with (refine wpList_store_row rfl 27 (.tmp 3) (.tmp 8) rfl (w.heap.size + 1) rfl ((lD y D')) rfl _ _ (hR1) (by exact size_disk) rfl (one_disk y D') ?_)
  refine bodyPost_ret (results_row_tmp (p := 3) (u := 4) (ty := 27) (by rfl) _ _ (w.heap.size + 1) 27 _ _ (by rfl) (by exact hR1.setRow _) Tryz.underlying27 (by rfl) (by exact size_disk)) (by rfl) ?_
  have hO := (Only.refl (w.heap.size + 1) w1).setRow (lD y D').toArray
  exact ⟨y, rfl, hy.only hO (hyf.mono (by omega)), hyf.mono (by omega), below_setRow hB (by omega) _⟩
theorem sync1_any (b : Nat) (k : Int) (x : WD) (D : DK) (w : World) (hc : w.cell? ⟨b, 0, none⟩ = some (.int .i64 k)) (h : InD w x D) (l : LimK D) :
    Calls Tryz.prog 160 #[aggD x D, .pointer (some ⟨b, 0, none⟩)] w (RetD w (syncD D k).1 (syncD D k).2) := by
  obtain ⟨hR0, hR1, hB⟩ := two_boxes w 27 27 (lD x D) l0D _ _ rfl rfl
  have HC := Lib.hid (fun W (hb : Below w.heap.size w W) => sync17_any x D k W (h.keep hb) (h.n0 l) (h.n1 l) l.fu l.ke)
  unfold aggD at HC
  have hbl := World.block_lt_of_cell? w _ hc
  obtain ⟨P, hP⟩ : ∃ P, syncD D k = P := ⟨_, rfl⟩
  rw [hP] at HC ⊢
  clear h l hP
  unfold aggD
  go_enter Tryz.func160, Tryz.ntmps160
  go_upto_region 1 with fail
  have hc1 := (hB.cell (p := ⟨b, 0, none⟩) hbl).trans hc
  clear hc hbl
  generalize (w.alloc (.cells (lD x D).toArray 27)).alloc (.cells l0D.toArray 27) = W0 at hR0 hR1 hB hc1 ⊢
  go_wp2_with (refine wpList_load_part rfl 27 (.tmp 2) rfl (w.heap.size) 0 rfl _ _ (hR0) ((lD x D)) (by rfl) _ Tryz.underlying27 rfl (by exact size_disk) ?_)
  refine (HC.out _ hB).mono ?_
  rintro e w1 ⟨y, rfl, hy, hyf, hb⟩
  obtain ⟨D', er⟩ := P
  unfold aggD
  have hl0 := hR1.lt
  replace hR1 := hR1.later hb
  replace hB := below_step hB hb
  clear hb HC hR0 hc1
  dsimp only at hy ⊢
  go_wp2_with (refine wpList_store_row rfl 27 (.tmp 3) (.tmp 8) rfl (w.heap.size + 1) rfl ((lD y D')) rfl _ _ (hR1) (by exact size_disk) rfl (one_disk y D') ?_)
  refine bodyPost_ret (results_row_tmp (p := 3) (u := 4) (ty := 27) (by rfl) _ _ (w.heap.size + 1) 27 _ _ (by rfl) (by exact hR1.setRow _) Tryz.underlying27 (by rfl) (by exact size_disk)) (by rfl) ?_
  have hO := (Only.refl (w.heap.size + 1) w1).setRow (lD y D').toArray
  exact ⟨y, rfl, hy.only hO (hyf.mono (by omega)), hyf.mono (by omega), below_setRow hB (by omega) _⟩
theorem write1_any (b : Nat) (k : Int) (c : List UInt8) (C : Option Addr) (n d : Nat) (x : WD) (D : DK) (w : World) (hc : w.cell? ⟨b, 0, none⟩ = some (.int .i64 k)) (hc2 : w.cell? ⟨b + 1, 0, none⟩ = some (.slice C n d)) (HL : Hid (c.length = n)) (hnd : n ≤ d) (hr : Rd vB w C c) (hn : n ≤ 70368744177664) (h : InD w x D) (l : LimK D) :
    Calls Tryz.prog 157 #[aggD x D, .pointer (some ⟨b, 0, none⟩), .pointer (some ⟨b + 1, 0, none⟩)] w (RetD w (writeD D k c).1 (writeD D k c).2) := by
  obtain ⟨hR0, hR1, hB⟩ := two_boxes w 27 27 (lD x D) l0D _ _ rfl rfl
  have HC := Lib.hid (fun W (hb : Below w.heap.size w W) => write17_any x D k c C n d W (h.keep hb) HL hnd (hr.keep hb) (h.n0 l) (h.n1 l) hn l.fu l.ke)
  unfold aggD at HC
  have hbl := World.block_lt_of_cell? w _ hc
  have hbl2 := World.block_lt_of_cell? w _ hc2
  obtain ⟨P, hP⟩ : ∃ P, writeD D k c = P := ⟨_, rfl⟩
  rw [hP] at HC ⊢
  clear h l hP hr hnd hn
  unfold aggD
  go_enter Tryz.func157, Tryz.ntmps157
  go_upto_region 1 with fail
  have hc1 := (hB.cell (p := ⟨b, 0, none⟩) hbl).trans hc
  have hc21 := (hB.cell (p := ⟨b + 1, 0, none⟩) hbl2).trans hc2
  clear hc hbl hc2 hbl2
  generalize (w.alloc (.cells (lD x D).toArray 27)).alloc (.cells l0D.toArray 27) = W0 at hR0 hR1 hB hc1 hc21 ⊢
  go_wp2_with (refine wpList_load_part rfl 27 (.tmp 3) rfl (w.heap.size) 0 rfl _ _ (hR0) ((lD x D)) (by rfl) _ Tryz.underlying27 rfl (by exact size_disk) ?_)
  refine (HC.out _ hB).mono ?_
  rintro e w1 ⟨y, rfl, hy, hyf, hb⟩
  obtain ⟨D', er⟩ := P
  unfold aggD
  have hl0 := hR1.lt
  replace hR1 := hR1.later hb
  replace hB := below_step hB hb
  clear hb HC hR0 hc1 hc21
  dsimp only at hy ⊢
  go_wp2_with (refine wpList_store_row rfl 27 (.tmp 4) (.tmp 10) rfl (w.heap.size + 1) rfl ((lD y D')) rfl _ _ (hR1) (by exact size_disk) rfl (one_disk y D') ?_)
  refine bodyPost_ret (results_row_tmp (p := 4) (u := 5) (ty := 27) (by rfl) _ _ (w.heap.size + 1) 27 _ _ (by rfl) (by exact hR1.setRow _) Tryz.underlying27 (by rfl) (by exact size_disk)) (by rfl) ?_
  have hO := (Only.refl (w.heap.size + 1) w1).setRow (lD y D').toArray
  exact ⟨y, rfl, hy.only hO (hyf.mono (by omega)), hyf.mono (by omega), below_setRow hB (by omega) _⟩
theorem wipet_any (k : Int) (w : World) : Calls Tryz.prog 88 #[.int .i64 k] w fun e w' => e = .returned (vStp (wipeT w.heap.size k)) ∧ DoS w' (wipeT w.heap.size k) ∧ Below w.heap.size w w' := by
  obtain ⟨hR, hB⟩ := box_of w 3 [.int .i64 k] _ rfl
  go_enter Tryz.func88, Tryz.ntmps88
  go_wp2_with fail
  go_ret
  exact ⟨rfl, ⟨fun args W => by kernel_rfl, fun x D W hb hi hl => wipe1_any w.heap.size k x D W ((hR.later hb).cell rfl) hi hl, fun D l h => wipe_lim l h⟩, hB⟩
theorem synct_any (k : Int) (w : World) : Calls Tryz.prog 91 #[.int .i64 k] w fun e w' => e = .returned (vStp (syncT w.heap.size k)) ∧ DoS w' (syncT w.heap.size k) ∧ Below w.heap.size w w' := by
  obtain ⟨hR, hB⟩ := box_of w 3 [.int .i64 k] _ rfl
  go_enter Tryz.func91, Tryz.ntmps91
  go_wp2_with fail
  go_ret
  exact ⟨rfl, ⟨fun args W => by kernel_rfl, fun x D W hb hi hl => sync1_any w.heap.size k x D W ((hR.later hb).cell rfl) hi hl, fun D l h => sync_lim l h⟩, hB⟩
theorem writet_any (k : Int) (c : List UInt8) (n : Nat) (C : Option Addr) (d : Nat) (w : World) (HL : Hid (c.length = n)) (hnd : n ≤ d) (hr : Rd vB w C c) (hn : n ≤ 70368744177664) :
    Calls Tryz.prog 89 #[.int .i64 k, .slice C n d] w fun e w' => e = .returned (vStp (writeT w.heap.size k c)) ∧ DoS w' (writeT w.heap.size k c) ∧ Below w.heap.size w w' := by
  obtain ⟨hR, hR1, hB⟩ := two_boxes w 3 22 [.int .i64 k] [.slice C n d] _ _ rfl rfl
  go_enter Tryz.func89, Tryz.ntmps89
  go_wp2_with fail
  go_ret
  exact ⟨rfl, ⟨fun args W => by kernel_rfl, fun x D W hb hi hl => write1_any w.heap.size k c C n d x D W ((hR.later hb).cell rfl) ((hR1.later hb).cell rfl) HL hnd (hr.keep (below_step hB hb)) hn hi hl, fun D l h => write_lim l h⟩, hB⟩
end Go.Proofs.YteppocjgodmpdaaGreatDoor
namespace Go.Proofs.YteppocjgodmpdaaGreatDoor
open Go.RowKit
theorem line_any [Inhabited Tab] (t : List UInt8) (n : Nat) (A : Option Addr) (c : Nat) (w : World) (HN : Hid (t.length = n)) (hr : Rd vB w A t) (hc : n ≤ c) (hn : n ≤ 60000) (HK : Hid (KTab w)) :
    Calls Tryz.prog 90 #[.slice A n c] w fun e w' => ∃ A' c', e = .returned (.slice A' (n + 6) c') ∧ n + 6 ≤ c' ∧ Hid ((slipS fS t).length = n + 6) ∧ Rd vB w' A' (slipS fS t) ∧ Below w.heap.size w w' := by
  have HP := Lib.hid (put18_any t n A c w HN hr hn HK)
  have hl : (slipS fS t).length = n + 6 := by rw [slip_length fS_length, HN.out, Nat.add_comm]
  have HL := Lib.hid hl
  clear hr HK hl
  generalize slipS fS t = S at HP HL ⊢
  go_enter Tryz.func90, Tryz.ntmps90
  go_wp2_with fail
  refine HP.out.mono ?_
  rintro e w1 ⟨v, rfl, hown, hb⟩
  obtain ⟨A', c', rfl, hc', hr'⟩ := own_slice hown
  rw [HL.out] at hc' ⊢
  clear hown
  go_wp2_with fail
  go_ret
  exact ⟨A', c', rfl, hc', HL, hr', hb⟩
def runD : List Stp → DK → DK × Int
  | [], D => (D, 0)
  | t :: r, D => if (t.h D).2 ≠ 0 then t.h D else runD r (t.h D).1
def doneK (St : List Stp) (s : ShK) : ShK × Int := if (runD St s.d).2 ≠ 0 then (onlyD (runD St s.d).1, (runD St s.d).2) else ({ s with d := (runD St s.d).1 }, 0)
def RetSo (w : World) (x : WS) (s' : ShK) (er : Int) (e : Ending) (w' : World) : Prop :=
  ∃ x', e = .returned (.tuple #[aggS x' s', .int .i64 er]) ∧ InS w' x' s' ∧ (∀ lo hi, hi ≤ w.heap.size → OffS lo hi x → OffS lo hi x') ∧ Below w.heap.size w w'
def DoneI (w : World) (x : WS) (s : ShK) (St : List Stp) (i : Value) (wr : World) : Prop :=
  ∃ (k : Nat) (y : WD) (D : DK), i = .int .i64 (k : Int) ∧ k ≤ St.length ∧ Hid (runD St s.d = runD (St.drop k) D) ∧ Row wr w.heap.size 39 [.slice y.A0 y.n0 y.c0, .int .i64 D.a0.s, .slice y.A1 y.n1 y.c1, .int .i64 D.a1.s, .int .i64 D.fuse, .int .i64 D.keep, .bool D.down, .int .i64 s.turn, .int .u64 (s.num : Int), .int .u64 (s.m.clock : Int), .int .u64 (s.m.b.1 : Int), .slice x.m.b.eA x.m.b.n x.m.b.ec, .slice x.m.b.gA x.m.b.g x.m.b.gc, .int .i64 s.m.c.1, .int .u64 (s.m.c.2.1 : Int), .slice x.m.c.A x.m.c.s x.m.c.c] ∧ Row wr (w.heap.size + 1) 39 l0S ∧ InD wr y D ∧ (∀ lo hi, hi ≤ w.heap.size → OffD lo hi x.d → OffD lo hi y) ∧ OffD w.heap.size (w.heap.size + 2) y ∧ Hid (LimK D) ∧ Below w.heap.size w wr
set_option maxHeartbeats 8000000 in
theorem done_any (x : WS) (s : ShK) (St : List Stp) (n c : Nat) (A : Option Addr) (w : World) (h : InS w x s) (hl : LimK s.d) (HN : Hid (St.length = n)) (hr : Rd vStp w A St) (hd : Hid (∀ t ∈ St, DoS w t)) (hn : n ≤ 1000000) :
    Calls Tryz.prog 87 #[aggS x s, .slice A n c] w (RetSo w x (doneK St s).1 (doneK St s).2) := by
  obtain ⟨hR0, hR1, hB⟩ := two_boxes w 39 39 (lS x s) l0S _ _ rfl rfl
  have HM := Lib.hid (fun W (hb : Below w.heap.size w W) => h.im.keep hb)
  have HOM := Lib.hid h.im
  have hd0 := h.id.keep hB
  have hoff0 : OffD w.heap.size (w.heap.size + 2) x.d := h.id.off _
  have HL := Lib.hid hl
  clear h hl
  unfold aggS
  go_enter Tryz.func87, Tryz.ntmps87
  go_upto_region 2 with fail
  generalize (w.alloc (.cells (lS x s).toArray 39)).alloc (.cells l0S.toArray 39) = W0 at hR0 hR1 hB hd0 ⊢
  go_loopw [12] (fun i wr => DoneI w x s St i wr) (fun i _ => n - (intOf i).toNat)
  case atStart => exact ⟨0, x.d, s.d, rfl, Nat.zero_le _, Lib.hid rfl, hR0, hR1, hd0, (fun _ _ _ h => h), hoff0, HL, hB⟩
  case round =>
    clear hR0 hR1 hB hd0 hoff0
    obtain ⟨k, y, D, rfl, hk, HR, hR0, hR1, hy, hoA, hoB, HLD, hB⟩ := hrel
    have hl1 := hR1.lt
    by_cases hlt : k < n
    · have hks : k < St.length := by rw [HN.out]; exact hlt
      obtain ⟨b3, o3, rfl, hb3, hcell⟩ := (hr.keep hB).at hks
      have hck := hcell k hks
      have hdk := (hd.out _ (List.getElem_mem hks)).later hB
      have HDR : Hid (St.drop k = St[k] :: St.drop (k + 1)) := List.drop_eq_getElem_cons hks
      clear hcell
      generalize St[k] = tk at hck hdk HDR
      obtain ⟨F, caps, hh⟩ := tk
      unfold vStp at hck
      dsimp only at hck
      have HCA := Lib.hid (hdk.ca y D wr (Below.refl _ _) hy HLD.out)
      have HEN := Lib.hid hdk.en
      have HLI := Lib.hid (hdk.li D HLD.out)
      unfold aggD at HCA
      dsimp only at HCA HEN HLI
      obtain ⟨P, hP⟩ : ∃ P, hh D = P := ⟨_, rfl⟩
      have HP := Lib.hid hP
      rw [hP] at HCA HLI
      clear hP hdk
      have i2 : (0 : Int) ≤ (k : Int) := by omega
      have i3 : (k : Int) < (n : Int) := by omega
      go_upto_region 4 with fail
      go_upto_region 5 with (first
        | (refine wpList_load_part rfl 27 (.tmp 18) rfl (w.heap.size) 0 rfl _ _ (hR0) ((lD y D)) (by rfl) _ Tryz.underlying27 rfl (by exact size_disk) ?_)
        | (refine wpList_plain rfl ?_; intro _ hK; refine wp_call_fn (.tmp 17) (.tmp 19) _ rfl F caps rfl _ rfl HEN.out ?_; refine HCA.out.mono ?_; rintro e w3 ⟨z, rfl, hz, hzf, hb⟩; refine ⟨_, rfl, hK _ _ ?_⟩; clear hK; unfold aggD)
        | (refine wpList_store_row rfl 27 (.tmp 8) (.tmp 21) rfl w3.heap.size rfl (lD z P.1) rfl _ _ (box_of w3 27 l0D _ rfl).1 (by exact size_disk) rfl (one_disk z P.1) ?_))
      have hl3 := hb.size
      have hyo := hzf.off 0
      have hzo : OffD w3.heap.size (w3.heap.size + 1) z := hz.off _
      have hbx := below_setRow (box_of w3 27 l0D _ rfl).2 (Nat.le_refl _) (lD z P.1).toArray
      have hR8 := (box_of w3 27 l0D _ rfl).1.setRow (lD z P.1)
      replace hR0 := (hR0.later hb).later hbx
      replace hR1 := (hR1.later hb).later hbx
      replace hz := hz.keep hbx
      replace hB := below_step (below_step hB hb) hbx
      clear hbx hb HCA
      generalize (w3.alloc (.cells l0D.toArray 27)).setRow w3.heap.size (lD z P.1).toArray = w4 at hR8 hR0 hR1 hz hB ⊢
      have hg8 : w.heap.size + 1 < w3.heap.size := by omega
      have hzA : ∀ lo hi, hi ≤ w.heap.size → OffD lo hi x.d → OffD lo hi z := fun lo hi hh _ => (hzf.off lo).mono (Nat.le_refl _) (by omega)
      have hzB : OffD w.heap.size (w.heap.size + 2) z := (hzf.off _).mono (Nat.le_refl _) (by omega)
      generalize w3.heap.size = g8 at hR8 hg8 ⊢
      by_cases he : P.2 = 0
      · have HN2 := Lib.hid (HLI.out he)
        obtain ⟨D', er⟩ := P
        dsimp only at he HN2 hR8 hz
        subst he
        go_upto_region 7 with fail
        have hth := there_of hR0 0 7 (by simp)
        have hO := Only.setCells (g := w.heap.size) (lD z D') 0 (Only.refl _ w4)
        have hR02 : Row (w4.setCells w.heap.size 0 (lD z D')) w.heap.size 39 [.slice z.A0 z.n0 z.c0, .int .i64 D'.a0.s, .slice z.A1 z.n1 z.c1, .int .i64 D'.a1.s, .int .i64 D'.fuse, .int .i64 D'.keep, .bool D'.down, .int .i64 s.turn, .int .u64 (s.num : Int), .int .u64 (s.m.clock : Int), .int .u64 (s.m.b.1 : Int), .slice x.m.b.eA x.m.b.n x.m.b.ec, .slice x.m.b.gA x.m.b.g x.m.b.gc, .int .i64 s.m.c.1, .int .u64 (s.m.c.2.1 : Int), .slice x.m.c.A x.m.c.s x.m.c.c] := hR0.setCells _ 0 (by simp)
        have hR12 := hR1.only hO (by omega)
        have hz2 := hz.at_only hO hzB (Nat.le_refl _) (by omega)
        have hB2 := hB.trans hO.below
        go_upto_region 8 with (first
          | (refine wpList_load_part rfl 27 (.tmp 8) rfl (g8) 0 rfl _ _ (hR8) ((lD z D')) (by rfl) _ Tryz.underlying27 rfl (by exact size_disk) ?_)
          | (refine wpList_store_mid rfl 27 (.tmp 29) (.tmp 28) rfl (w.heap.size) 0 ((lD z D').toArray) rfl rfl (hth) (by exact size_disk) (by exact all_oneCell_toArray (one_disk z D')) ?_))
        clear hR0 hR1 hz hB hO hth hR8
        generalize w4.setCells w.heap.size 0 (lD z D') = w5 at hR02 hR12 hz2 hB2 ⊢
        go_wp2_with fail
        go_roundw
        case rel =>
          refine ⟨k + 1, z, D', by go_num, by omega, ?_, hR02, hR12, hz2, hzA, hzB, HN2, hB2⟩
          unfold Hid
          rw [HR.out, HDR.out]
          show (if (hh D).2 ≠ 0 then hh D else runD (St.drop (k + 1)) (hh D).1) = _
          rw [HP.out, if_neg (not_not_intro rfl)]
        case measure => simp [intOf]; omega
      · have HFIN : Hid (doneK St s = (onlyD P.1, P.2)) := by
          have h1 : runD St s.d = P := by
            rw [HR.out, HDR.out]
            show (if (hh D).2 ≠ 0 then hh D else runD (St.drop (k + 1)) (hh D).1) = _
            rw [HP.out, if_pos he]
          unfold Hid doneK
          rw [h1, if_pos he]
        obtain ⟨D', er⟩ := P
        dsimp only at he HFIN hR8 hz ⊢
        have hz1 : (er == 0) = false := beq_eq_false_iff_ne.2 he
        have hz2 : (er != 0) = true := by rw [bne, hz1]; rfl
        go_wp2_with (first
          | (refine wpList_load_part rfl 27 (.tmp 8) rfl (g8) 0 rfl _ _ (hR8) ((lD z D')) (by rfl) _ Tryz.underlying27 rfl (by exact size_disk) ?_)
          | (refine wpList_store_row rfl 39 (.tmp 4) (.tmp 26) rfl (w.heap.size + 1) rfl ([.slice z.A0 z.n0 z.c0, .int .i64 D'.a0.s, .slice z.A1 z.n1 z.c1, .int .i64 D'.a1.s, .int .i64 D'.fuse, .int .i64 D'.keep, .bool D'.down, .int .i64 0, .int .u64 0, .int .u64 0, .int .u64 0, .slice none 0 0, .slice none 0 0, .int .i64 0, .int .u64 0, .slice none 0 0]) rfl _ _ (hR1) (by exact size_shelf) rfl (one_shelf ⟨z, zeroWM⟩ (onlyD D')) ?_))
        refine bodyPost_ret (results_row_tmp (p := 4) (u := 5) (ty := 39) (by rfl) _ _ (w.heap.size + 1) 39 _ _ (by rfl) (by exact hR1.setRow _) Tryz.underlying39 (by rfl) (by exact size_shelf)) (by rfl) ?_
        have hO := (Only.refl (w.heap.size + 1) w4).setRow [.slice z.A0 z.n0 z.c0, .int .i64 D'.a0.s, .slice z.A1 z.n1 z.c1, .int .i64 D'.a1.s, .int .i64 D'.fuse, .int .i64 D'.keep, .bool D'.down, .int .i64 0, .int .u64 0, .int .u64 0, .int .u64 0, .slice none 0 0, .slice none 0 0, .int .i64 0, .int .u64 0, .slice none 0 0].toArray
        rw [HFIN.out]
        exact ⟨⟨z, zeroWM⟩, rfl, ⟨hz.at_only hO hzB (by omega) (by omega), zeroM_in _⟩, (fun lo hi hh ho => ⟨hzA lo hi hh ho.d, (zeroM_fresh _).off lo⟩), below_setRow hB (by omega) _⟩
    · have hkn : k = n := by
        have := hk
        rw [HN.out] at this
        omega
      subst hkn
      have hi1 : ¬ (k : Int) < (k : Int) := by omega
      have HFIN : Hid (doneK St s = ({ s with d := D }, 0)) := by
        have h1 : runD St s.d = (D, 0) := by
          rw [HR.out, ← HN.out, List.drop_length]
          rfl
        unfold Hid doneK
        rw [h1, if_neg (not_not_intro rfl)]
      go_wp2_with (first
        | (refine wpList_load_part rfl 39 (.tmp 2) rfl (w.heap.size) 0 rfl _ _ (hR0) ([.slice y.A0 y.n0 y.c0, .int .i64 D.a0.s, .slice y.A1 y.n1 y.c1, .int .i64 D.a1.s, .int .i64 D.fuse, .int .i64 D.keep, .bool D.down, .int .i64 s.turn, .int .u64 (s.num : Int), .int .u64 (s.m.clock : Int), .int .u64 (s.m.b.1 : Int), .slice x.m.b.eA x.m.b.n x.m.b.ec, .slice x.m.b.gA x.m.b.g x.m.b.gc, .int .i64 s.m.c.1, .int .u64 (s.m.c.2.1 : Int), .slice x.m.c.A x.m.c.s x.m.c.c]) (by rfl) _ Tryz.underlying39 rfl (by exact size_shelf) ?_)
        | (refine wpList_store_row rfl 39 (.tmp 4) (.tmp 31) rfl (w.heap.size + 1) rfl ([.slice y.A0 y.n0 y.c0, .int .i64 D.a0.s, .slice y.A1 y.n1 y.c1, .int .i64 D.a1.s, .int .i64 D.fuse, .int .i64 D.keep, .bool D.down, .int .i64 s.turn, .int .u64 (s.num : Int), .int .u64 (s.m.clock : Int), .int .u64 (s.m.b.1 : Int), .slice x.m.b.eA x.m.b.n x.m.b.ec, .slice x.m.b.gA x.m.b.g x.m.b.gc, .int .i64 s.m.c.1, .int .u64 (s.m.c.2.1 : Int), .slice x.m.c.A x.m.c.s x.m.c.c]) rfl _ _ (hR1) (by exact size_shelf) rfl (one_shelf ⟨y, x.m⟩ { s with d := D }) ?_))
      refine bodyPost_ret (results_row_tmp (p := 4) (u := 5) (ty := 39) (by rfl) _ _ (w.heap.size + 1) 39 _ _ (by rfl) (by exact hR1.setRow _) Tryz.underlying39 (by rfl) (by exact size_shelf)) (by rfl) ?_
      have hO := (Only.refl (w.heap.size + 1) wr).setRow [.slice y.A0 y.n0 y.c0, .int .i64 D.a0.s, .slice y.A1 y.n1 y.c1, .int .i64 D.a1.s, .int .i64 D.fuse, .int .i64 D.keep, .bool D.down, .int .i64 s.turn, .int .u64 (s.num : Int), .int .u64 (s.m.clock : Int), .int .u64 (s.m.b.1 : Int), .slice x.m.b.eA x.m.b.n x.m.b.ec, .slice x.m.b.gA x.m.b.g x.m.b.gc, .int .i64 s.m.c.1, .int .u64 (s.m.c.2.1 : Int), .slice x.m.c.A x.m.c.s x.m.c.c].toArray
      have hBf := below_setRow hB (show w.heap.size ≤ w.heap.size + 1 by omega) [.slice y.A0 y.n0 y.c0, .int .i64 D.a0.s, .slice y.A1 y.n1 y.c1, .int .i64 D.a1.s, .int .i64 D.fuse, .int .i64 D.keep, .bool D.down, .int .i64 s.turn, .int .u64 (s.num : Int), .int .u64 (s.m.clock : Int), .int .u64 (s.m.b.1 : Int), .slice x.m.b.eA x.m.b.n x.m.b.ec, .slice x.m.b.gA x.m.b.g x.m.b.gc, .int .i64 s.m.c.1, .int .u64 (s.m.c.2.1 : Int), .slice x.m.c.A x.m.c.s x.m.c.c].toArray
      rw [HFIN.out]
      exact ⟨⟨y, x.m⟩, rfl, ⟨hy.at_only hO hoB (by omega) (by omega), HM.out _ hBf⟩, (fun lo hi hh ho => ⟨hoA lo hi hh ho.d, ho.m⟩), hBf⟩
end Go.Proofs.YteppocjgodmpdaaGreatDoor
namespace Go.Proofs.YteppocjgodmpdaaGreatDoor
open Go.RowKit
def shS (g : Nat) (a b c d e f h i j k l m n o p q : Value) (W : World) : Prop := W.cell? ⟨g, 0, none⟩ = some a ∧ (W.cell? ⟨g, 1, none⟩ = some b ∧ (W.cell? ⟨g, 2, none⟩ = some c ∧ (W.cell? ⟨g, 3, none⟩ = some d ∧ (W.cell? ⟨g, 4, none⟩ = some e ∧ (W.cell? ⟨g, 5, none⟩ = some f ∧ (W.cell? ⟨g, 6, none⟩ = some h ∧ (W.cell? ⟨g, 7, none⟩ = some i ∧ (W.cell? ⟨g, 8, none⟩ = some j ∧ (W.cell? ⟨g, 9, none⟩ = some k ∧ (W.cell? ⟨g, 10, none⟩ = some l ∧ (W.cell? ⟨g, 11, none⟩ = some m ∧ (W.cell? ⟨g, 12, none⟩ = some n ∧ (W.cell? ⟨g, 13, none⟩ = some o ∧ (W.cell? ⟨g, 14, none⟩ = some p ∧ (W.cell? ⟨g, 15, none⟩ = some q)))))))))))))))
theorem shS_of {g : Nat} {t : TypeId} {a b c d e f h i j k l m n o p q : Value} {W : World} (h1 : Row W g t [a, b, c, d, e, f, h, i, j, k, l, m, n, o, p, q]) : shS g a b c d e f h i j k l m n o p q W := ⟨h1.cell rfl, h1.cell rfl, h1.cell rfl, h1.cell rfl, h1.cell rfl, h1.cell rfl, h1.cell rfl, h1.cell rfl, h1.cell rfl, h1.cell rfl, h1.cell rfl, h1.cell rfl, h1.cell rfl, h1.cell rfl, h1.cell rfl, h1.cell rfl⟩
theorem run_wipeSlip (b1 b2 b3 : Nat) (k : Int) (t : List UInt8) (f : List UInt8 → List UInt8) (D : DK) : runD [wipeT b1 k, writeT b2 k (slipS f t), syncT b3 k] D = wipeSlip f D k t := by
  show (if (wipeD D k).2 ≠ 0 then wipeD D k else (if (writeD (wipeD D k).1 k (slipS f t)).2 ≠ 0 then writeD (wipeD D k).1 k (slipS f t) else (if (syncD (writeD (wipeD D k).1 k (slipS f t)).1 k).2 ≠ 0 then syncD (writeD (wipeD D k).1 k (slipS f t)).1 k else ((syncD (writeD (wipeD D k).1 k (slipS f t)).1 k).1, 0)))) = _
  unfold wipeSlip slipD
  by_cases h1 : (wipeD D k).2 = 0
  · rw [if_neg (not_not_intro h1), if_pos h1]
    by_cases h2 : (writeD (wipeD D k).1 k (slipS f t)).2 = 0
    · rw [if_neg (not_not_intro h2), if_neg (not_not_intro h2)]
      by_cases h3 : (syncD (writeD (wipeD D k).1 k (slipS f t)).1 k).2 = 0
      · rw [if_neg (not_not_intro h3), ← h3]
      · rw [if_pos h3]
    · rw [if_pos h2, if_pos h2]
  · rw [if_pos h1, if_neg h1]
theorem run_slip (b2 b3 : Nat) (k : Int) (t : List UInt8) (f : List UInt8 → List UInt8) (D : DK) : runD [writeT b2 k (slipS f t), syncT b3 k] D = slipD f D k t := by
  show (if (writeD D k (slipS f t)).2 ≠ 0 then writeD D k (slipS f t) else (if (syncD (writeD D k (slipS f t)).1 k).2 ≠ 0 then syncD (writeD D k (slipS f t)).1 k else ((syncD (writeD D k (slipS f t)).1 k).1, 0))) = _
  unfold slipD
  by_cases h2 : (writeD D k (slipS f t)).2 = 0
  · rw [if_neg (not_not_intro h2), if_neg (not_not_intro h2)]
    by_cases h3 : (syncD (writeD D k (slipS f t)).1 k).2 = 0
    · rw [if_neg (not_not_intro h3), ← h3]
    · rw [if_pos h3]
  · rw [if_pos h2, if_pos h2]
theorem done_anew (b1 b2 b3 : Nat) (f : List UInt8 → List UInt8) (s : ShK) (h : s.num < 4611686018427387904) : doneK [wipeT b1 (1 - s.turn), writeT b2 (1 - s.turn) (slipS f (memRec (s.num + 1) s.m)), syncT b3 (1 - s.turn)] { s with turn := 1 - s.turn, num := s.num + 1 } = anewK f s := by
  unfold doneK anewK
  rw [if_neg (by omega : ¬ 4611686018427387904 ≤ s.num)]
  dsimp only
  rw [run_wipeSlip]
set_option maxHeartbeats 16000000 in
theorem anew_any [Inhabited Tab] (x : WS) (s : ShK) (w : World) (h : InS w x s) (hl : LimK s.d) (hm : rightM s.m = true) (ht : s.turn = 0 ∨ s.turn = 1) (hn : s.num < 4611686018427387904) (HK : Hid (KTab w)) :
    Calls Tryz.prog 44 #[aggS x s] w (RetSo w x (anewK fS s).1 (anewK fS s).2) := by
  obtain ⟨hR0, hR1, hB⟩ := two_boxes w 39 39 (lS x s) l0S _ _ rfl rfl
  obtain ⟨P, hP⟩ : ∃ P, anewK fS s = P := ⟨_, rfl⟩
  obtain ⟨k, hk⟩ : ∃ k, 1 - s.turn = k := ⟨_, rfl⟩
  obtain ⟨N, hN⟩ : ∃ N, s.num + 1 = N := ⟨_, rfl⟩
  have HDN : Hid (∀ b1 b2 b3, doneK [wipeT b1 k, writeT b2 k (slipS fS (memRec N s.m)), syncT b3 k] { s with turn := k, num := N } = P) := fun b1 b2 b3 => by rw [← hk, ← hN, ← hP]; exact done_anew b1 b2 b3 fS s hn
  have HI := Lib.hid (fun W (hb : Below w.heap.size w W) => h.keep hb)
  have HL := Lib.hid hl
  have hle := memRec_le N hm
  have HMR := Lib.hid (fun W (hb : Below w.heap.size w W) => memrec_any N x.m s.m W (h.im.keep hb) hm (by omega))
  unfold aggM at HMR
  have HKK := Lib.hid (fun W (hb : Below w.heap.size w W) => HK.out.keep hb)
  rw [hP]
  clear hP h hl hm
  unfold aggS
  go_enter Tryz.func44, Tryz.ntmps44
  go_upto_region 1 with fail
  generalize (w.alloc (.cells (lS x s).toArray 39)).alloc (.cells l0S.toArray 39) = W0 at hR0 hR1 hB ⊢
  have f7 := hR0.frozen 7
  have c7 : W0.cell? ⟨w.heap.size, 7, none⟩ = some (.int .i64 s.turn) := hR0.cell rfl
  have hw1 : IntKind.i64.wrap (1 - s.turn) = k := by rw [IntKind.wrap_i64]; omega
  have hO := (Only.refl w.heap.size W0).setCell 7 (.int .i64 k)
  have hR01 : Row (W0.setCell ⟨w.heap.size, 7, none⟩ (.int .i64 k)) w.heap.size 39 [.slice x.d.A0 x.d.n0 x.d.c0, .int .i64 s.d.a0.s, .slice x.d.A1 x.d.n1 x.d.c1, .int .i64 s.d.a1.s, .int .i64 s.d.fuse, .int .i64 s.d.keep, .bool s.d.down, .int .i64 k, .int .u64 (s.num : Int), .int .u64 (s.m.clock : Int), .int .u64 (s.m.b.1 : Int), .slice x.m.b.eA x.m.b.n x.m.b.ec, .slice x.m.b.gA x.m.b.g x.m.b.gc, .int .i64 s.m.c.1, .int .u64 (s.m.c.2.1 : Int), .slice x.m.c.A x.m.c.s x.m.c.c] := hR0.setCell 7 _
  have hR11 := hR1.only hO (by omega)
  have hB1 := hB.trans hO.below
  go_upto_region 2 with fail
  clear hR0 hR1 hB f7 c7 hO
  generalize W0.setCell ⟨w.heap.size, 7, none⟩ (.int .i64 k) = W1 at hR01 hR11 hB1 ⊢
  have f8 := hR01.frozen 8
  have c8 : W1.cell? ⟨w.heap.size, 8, none⟩ = some (.int .u64 (s.num : Int)) := hR01.cell rfl
  have hw2 : IntKind.u64.wrap ((s.num : Int) + 1) = (N : Int) := by rw [IntKind.wrap_u64]; omega
  have hO := (Only.refl w.heap.size W1).setCell 8 (.int .u64 (N : Int))
  have hR02 : Row (W1.setCell ⟨w.heap.size, 8, none⟩ (.int .u64 (N : Int))) w.heap.size 39 [.slice x.d.A0 x.d.n0 x.d.c0, .int .i64 s.d.a0.s, .slice x.d.A1 x.d.n1 x.d.c1, .int .i64 s.d.a1.s, .int .i64 s.d.fuse, .int .i64 s.d.keep, .bool s.d.down, .int .i64 k, .int .u64 (N : Int), .int .u64 (s.m.clock : Int), .int .u64 (s.m.b.1 : Int), .slice x.m.b.eA x.m.b.n x.m.b.ec, .slice x.m.b.gA x.m.b.g x.m.b.gc, .int .i64 s.m.c.1, .int .u64 (s.m.c.2.1 : Int), .slice x.m.c.A x.m.c.s x.m.c.c] := hR01.setCell 8 _
  have hR12 := hR11.only hO (by omega)
  have hB2 := hB1.trans hO.below
  go_upto_region 3 with fail
  clear hR01 hR11 hB1 f8 c8 hO hw1 hw2
  generalize W1.setCell ⟨w.heap.size, 8, none⟩ (.int .u64 (N : Int)) = W2 at hR02 hR12 hB2 ⊢
  have hS : shS w.heap.size (.slice x.d.A0 x.d.n0 x.d.c0) (.int .i64 s.d.a0.s) (.slice x.d.A1 x.d.n1 x.d.c1) (.int .i64 s.d.a1.s) (.int .i64 s.d.fuse) (.int .i64 s.d.keep) (.bool s.d.down) (.int .i64 k) (.int .u64 (N : Int)) (.int .u64 (s.m.clock : Int)) (.int .u64 (s.m.b.1 : Int)) (.slice x.m.b.eA x.m.b.n x.m.b.ec) (.slice x.m.b.gA x.m.b.g x.m.b.gc) (.int .i64 s.m.c.1) (.int .u64 (s.m.c.2.1 : Int)) (.slice x.m.c.A x.m.c.s x.m.c.c) W2.drew := shS_of (W := W2.drew) hR02
  have hR0 := hR02.drew
  have hR1 := hR12.drew
  have hB := hB2.drew
  refine wp_region_plan_of (shS w.heap.size (.slice x.d.A0 x.d.n0 x.d.c0) (.int .i64 s.d.a0.s) (.slice x.d.A1 x.d.n1 x.d.c1) (.int .i64 s.d.a1.s) (.int .i64 s.d.fuse) (.int .i64 s.d.keep) (.bool s.d.down) (.int .i64 k) (.int .u64 (N : Int)) (.int .u64 (s.m.clock : Int)) (.int .u64 (s.m.b.1 : Int)) (.slice x.m.b.eA x.m.b.n x.m.b.ec) (.slice x.m.b.gA x.m.b.g x.m.b.gc) (.int .i64 s.m.c.1) (.int .u64 (s.m.c.2.1 : Int)) (.slice x.m.c.A x.m.c.s x.m.c.c)) (.step 0 false (.step 1 false (.step 2 false (.step 4 false (.step 5 false (.step 6 false (.step 7 false (.step 8 false (.step 9 false (.step 13 false (.step 14 false (.step 3 true (.step 10 true (.step 11 true (.step 12 true (.step 15 true (.step 16 true (.step 17 true (.step 18 false (.step 19 false (.step 20 true (.step 21 false (.nil))))))))))))))))))))))) hS (by kernel_rfl) (by kernel_rfl) (by rfl) (by kernel_rfl) ?_
  clear hR02 hR12 hB2
  generalize W2.drew = wv at *
  iterate 11 (refine plan_read rfl (by rfl) (v := ?_) ?_ ?_; rotate_left 1; (rintro W ⟨hW0, hW1⟩; go_simp <;> with_reducible rfl); simp only [pA, pB, pC, Act.put, pD, pE, pF])
  clear hS
  refine plan_make_of rfl (by rfl) (fun K hK => ?_)
  go_simp
  refine (wipet_any k wv).mono ?_
  rintro e w1 ⟨rfl, hd1, hb⟩
  replace hR0 := hR0.later hb
  replace hR1 := hR1.later hb
  replace hB := below_step hB hb
  refine hK.out _ _ (shS_of hR0) ?_
  clear hK K hb
  generalize hb1 : wv.heap.size = b1 at hd1 ⊢
  clear hb1
  (try simp only [pA, pB, pC, Act.put, pD, pE, pF])
  refine plan_make_of rfl (by rfl) (fun K hK => ?_)
  go_simp
  refine (HMR.out w1 hB).mono ?_
  rintro e w2 ⟨v, rfl, hown, hb⟩
  obtain ⟨A2, c2, rfl, hc2, hr2⟩ := own_slice hown
  replace hR0 := hR0.later hb
  replace hR1 := hR1.later hb
  have hB2 := below_step hB hb
  replace hd1 := hd1.later hb
  refine hK.out _ _ (shS_of hR0) ?_
  clear hK K hb hown hB
  (try simp only [pA, pB, pC, Act.put, pD, pE, pF])
  refine plan_make_of rfl (by rfl) (fun K hK => ?_)
  go_simp
  refine (line_any (memRec N s.m) _ A2 c2 w2 (Lib.hid rfl) hr2 hc2 (by omega) (HKK.out w2 hB2)).mono ?_
  rintro e w3 ⟨A3, c3, rfl, hc3, HL3, hr3, hb⟩
  replace hR0 := hR0.later hb
  replace hR1 := hR1.later hb
  have hB3 := below_step hB2 hb
  replace hd1 := hd1.later hb
  refine hK.out _ _ (shS_of hR0) ?_
  clear hK K hb hB2 hr2
  (try simp only [pA, pB, pC, Act.put, pD, pE, pF])
  refine plan_make_of rfl (by rfl) (fun K hK => ?_)
  go_simp
  refine (writet_any k (slipS fS (memRec N s.m)) _ A3 c3 w3 HL3 hc3 hr3 (by omega)).mono ?_
  rintro e w4 ⟨rfl, hd2, hb⟩
  replace hR0 := hR0.later hb
  replace hR1 := hR1.later hb
  have hB4 := below_step hB3 hb
  replace hd1 := hd1.later hb
  refine hK.out _ _ (shS_of hR0) ?_
  clear hK K hb hB3 hr3
  generalize hb2 : w3.heap.size = b2 at hd2 ⊢
  clear hb2
  (try simp only [pA, pB, pC, Act.put, pD, pE, pF])
  refine plan_make_of rfl (by rfl) (fun K hK => ?_)
  go_simp
  refine (synct_any k w4).mono ?_
  rintro e w5 ⟨rfl, hd3, hb⟩
  replace hR0 := hR0.later hb
  replace hR1 := hR1.later hb
  have hB5 := below_step hB4 hb
  replace hd1 := hd1.later hb
  replace hd2 := hd2.later hb
  refine hK.out _ _ (shS_of hR0) ?_
  clear hK K hb hB4
  generalize hb3 : w4.heap.size = b3 at hd3 ⊢
  clear hb3
  (try simp only [pA, pB, pC, Act.put, pD, pE, pF])
  refine plan_make_of rfl (by rfl) (fun K hK => ?_)
  obtain ⟨v1, hv1⟩ : ∃ v, vStp (wipeT b1 k) = v := ⟨_, rfl⟩
  obtain ⟨v2, hv2⟩ : ∃ v, vStp (writeT b2 k (slipS fS (memRec N s.m))) = v := ⟨_, rfl⟩
  obtain ⟨v3, hv3⟩ : ∃ v, vStp (syncT b3 k) = v := ⟨_, rfl⟩
  rw [hv1, hv2, hv3]
  have hq1 : v1 = .func (.func 155) #[] #[.pointer (some ⟨b1, 0, none⟩)] := hv1.symm
  have hq2 : v2 = .func (.func 157) #[] #[.pointer (some ⟨b2, 0, none⟩), .pointer (some ⟨b2 + 1, 0, none⟩)] := hv2.symm
  have hq3 : v3 = .func (.func 160) #[] #[.pointer (some ⟨b3, 0, none⟩)] := hv3.symm
  have HV := Lib.hid (show [wipeT b1 k, writeT b2 k (slipS fS (memRec N s.m)), syncT b3 k].map vStp = [v1, v2, v3] by rw [← hv1, ← hv2, ← hv3]; rfl)
  clear hv1 hv2 hv3
  rw [hq1, hq2, hq3] at HV ⊢
  clear hq1 hq2 hq3
  go_simp
  have hbx := below_new (Below.refl w5.heap.size w5) (.cells #[.func (.func 155) #[] #[.pointer (some ⟨b1, 0, none⟩)], .func (.func 157) #[] #[.pointer (some ⟨b2, 0, none⟩), .pointer (some ⟨b2 + 1, 0, none⟩)], .func (.func 160) #[] #[.pointer (some ⟨b3, 0, none⟩)]] 158)
  have hrn : Rd vStp (w5.alloc (.cells #[.func (.func 155) #[] #[.pointer (some ⟨b1, 0, none⟩)], .func (.func 157) #[] #[.pointer (some ⟨b2, 0, none⟩), .pointer (some ⟨b2 + 1, 0, none⟩)], .func (.func 160) #[] #[.pointer (some ⟨b3, 0, none⟩)]] 158)) (some ⟨w5.heap.size, 0, none⟩) [wipeT b1 k, writeT b2 k (slipS fS (memRec N s.m)), syncT b3 k] := Rd.new w5 _ _ _ (by rw [HV.out])
  replace hR0 := hR0.later hbx
  replace hR1 := hR1.later hbx
  have hB6 := below_step hB5 hbx
  refine hK.out _ _ (shS_of hR0) ?_
  have hdall : ∀ t ∈ [wipeT b1 k, writeT b2 k (slipS fS (memRec N s.m)), syncT b3 k], DoS (w5.alloc (.cells #[.func (.func 155) #[] #[.pointer (some ⟨b1, 0, none⟩)], .func (.func 157) #[] #[.pointer (some ⟨b2, 0, none⟩), .pointer (some ⟨b2 + 1, 0, none⟩)], .func (.func 160) #[] #[.pointer (some ⟨b3, 0, none⟩)]] 158)) t := fun t ht => by
    rcases List.mem_cons.1 ht with e | ht
    · rw [e]; exact hd1.later hbx
    · rcases List.mem_cons.1 ht with e | ht
      · rw [e]; exact hd2.later hbx
      · rcases List.mem_cons.1 ht with e | ht
        · rw [e]; exact hd3.later hbx
        · exact absurd ht (by simp)
  have hi6 := HI.out _ hB6
  have HD := Lib.hid (done_any x { s with turn := k, num := N } [wipeT b1 k, writeT b2 k (slipS fS (memRec N s.m)), syncT b3 k] 3 3 (some ⟨w5.heap.size, 0, none⟩) _ ⟨hi6.id, hi6.im⟩ HL.out (Lib.hid rfl) hrn (Lib.hid hdall) (by omega))
  rw [HDN.out] at HD
  unfold aggS at HD
  dsimp only at HD
  clear hK K hbx hi6 hdall hrn hd1 hd2 hd3 hB5 HV HDN
  generalize w5.heap.size = q5 at HD hR0 hR1 hB6 ⊢
  generalize w5.alloc (.cells #[.func (.func 155) #[] #[.pointer (some ⟨b1, 0, none⟩)], .func (.func 157) #[] #[.pointer (some ⟨b2, 0, none⟩), .pointer (some ⟨b2 + 1, 0, none⟩)], .func (.func 160) #[] #[.pointer (some ⟨b3, 0, none⟩)]] 158) = w6 at HD hR0 hR1 hB6 ⊢
  (try simp only [pA, pB, pC, Act.put, pD, pE, pF])
  refine plan_make_of rfl (by rfl) (fun K hK => ?_)
  go_simp
  have hsz := hB6.size
  refine HD.out.mono ?_
  rintro e w7 ⟨y, rfl, hy, hyo, hb⟩
  have hl1 := hR1.lt
  replace hR0 := hR0.later hb
  replace hR1 := hR1.later hb
  have hB7 := below_step hB6 hb
  refine hK.out _ _ (shS_of hR0) ?_
  have hoA : ∀ lo hi, hi ≤ w.heap.size → OffS lo hi x → OffS lo hi y := fun lo hi hh ho => hyo lo hi (by omega) ho
  have hoB : OffS (w.heap.size + 1) (w.heap.size + 2) y := hyo _ _ (by omega) (((HI.out w (Below.refl _ _)).off (w.heap.size + 2)).mono (by omega) (Nat.le_refl _))
  clear hK K hb HD hyo hB6
  obtain ⟨s', er⟩ := P
  dsimp only at hy ⊢
  unfold aggS
  (try simp only [pA, pB, pC, Act.put, pD, pE, pF])
  iterate 2 (refine plan_read rfl (by rfl) (v := ?_) ?_ ?_; rotate_left 1; (rintro W ⟨hW0, hW1⟩; go_simp <;> with_reducible rfl); simp only [pA, pB, pC, Act.put, pD, pE, pF])
  refine plan_make_of rfl (by rfl) (fun K hK => ?_)
  refine Row.wp_store 39 (.tmp 2) (.tmp 30) (by rfl) (by rfl) (lS y s') (by rfl) hR1 (by exact size_shelf) rfl (one_shelf y s') ?_
  have hO := (Only.refl (w.heap.size + 1) w7).setRow (lS y s').toArray
  refine hK.out _ _ (shS_of (hR0.only hO (by omega))) ?_
  clear hK K
  (try simp only [pA, pB, pC, Act.put, pD, pE, pF])
  iterate 1 (refine plan_read rfl (by rfl) (v := ?_) ?_ ?_; rotate_left 1; (rintro W ⟨hW0, hW1⟩; go_simp <;> with_reducible rfl); simp only [pA, pB, pC, Act.put, pD, pE, pF])
  refine plan_done ?_
  go_wp2_with fail
  refine bodyPost_ret (results_row_tmp (p := 2) (u := 3) (ty := 39) (by rfl) _ _ (w.heap.size + 1) 39 _ _ (by rfl) (by exact hR1.setRow _) Tryz.underlying39 (by rfl) (by exact size_shelf)) (by rfl) ?_
  exact ⟨y, rfl, hy.at_only hO hoB (by omega) (by omega), hoA, below_setRow hB7 (by omega) _⟩
end Go.Proofs.YteppocjgodmpdaaGreatDoor
