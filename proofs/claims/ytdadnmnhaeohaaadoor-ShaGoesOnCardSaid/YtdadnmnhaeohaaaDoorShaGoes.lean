/-
  The walk of the law ShaGoesOn: a text that comes in any parts has the hash that it has at once. Condition: the package's table holds the sixty-four constants.
-/
import Derived.Test.YtdadnmnhaeohaaaDoorShaBlocks
namespace Go.Proofs.YtdadnmnhaeohaaaDoor
open Go.RowKit
set_option linter.unusedSimpArgs false
set_option linter.unusedVariables false

theorem ownsRow_same {w w' : World} {base : Nat} {e : TypeId} {v : Value} {n : Nat} {xs : List Value} (h : w.ownsRow base e 1 v n xs) (hh : ∀ b, base ≤ b → b < w.heap.size → w'.heap[b]? = w.heap[b]?) : w'.ownsRow base e 1 v n xs := by
  refine ⟨h.1, ?_⟩
  rcases h.2 with h0 | ⟨g, cap, cur, hv, hg, hc, r⟩
  · exact .inl h0
  · exact .inr ⟨g, cap, cur, hv, hg, (hh g hg (Array.getElem?_eq_some_iff.1 hc).1).trans hc, r⟩
theorem ownsRow_later {w w' : World} {base : Nat} {e : TypeId} {v : Value} {n : Nat} {xs : List Value} (h : w.ownsRow base e 1 v n xs) (hb : Below w.heap.size w w') : w'.ownsRow base e 1 v n xs := ownsRow_same h (fun b _ hb' => hb.block b hb')
theorem Rd.grown {α : Type} {f : α → Value} {w w' : World} {row : Option Nat} {A : Option Addr} {L : List α} (h : Rd f w A L) (hg : w.grownBy w' row) (hA : ∀ a, A = some a → row ≠ some a.block) : Rd f w' A L := fun hn => by
  obtain ⟨b, o, rfl, hc⟩ := h hn
  refine ⟨b, o, rfl, fun i hi => ?_⟩
  obtain ⟨_, _, _, _, h5⟩ := hg
  have hk := hc i hi
  have hlt : b < w.heap.size := World.block_lt_of_cell? w _ hk
  exact (World.cell?_of_block (w := w) (a := ⟨b, o + i, none⟩) (h5 b hlt (fun e => hA ⟨b, o, none⟩ rfl e.symm))).trans hk
theorem own_slice {α : Type} {f : α → Value} {w : World} {base : Nat} {e : TypeId} {v : Value} {l : List α} (h : w.ownsRow base e 1 v l.length (l.map f)) : ∃ A cap, v = .slice A l.length cap ∧ l.length ≤ cap ∧ Rd f w A l := by
  rcases h.2 with ⟨rfl, h0⟩ | ⟨g, cap, cur, rfl, _, _, hc, _⟩
  · have hl : l = [] := List.eq_nil_of_length_eq_zero h0
    subst hl
    exact ⟨none, 0, rfl, Nat.le_refl _, Rd.nil⟩
  · exact ⟨_, cap, rfl, hc, Rd.own h⟩

def GoesRel (ps : List Part) (w : World) (g : Nat) (v i : Value) (wr : World) : Prop :=
  ∃ (k : Nat) (t : List UInt8) (S : St) (R : List UInt8) (A : Option Addr) (c m : Nat), k ≤ ps.length ∧ i = .int .i64 (k : Int) ∧ t.length ≤ 300 * k ∧ wr.ownsRow (g + 1) 5 1 v t.length (t.map vB) ∧
    Hid (HashOf startSt t S R m) ∧ Row wr g 27 [.int .u32 (S.a.toNat : Int), .int .u32 (S.b.toNat : Int), .int .u32 (S.c.toNat : Int), .int .u32 (S.d.toNat : Int), .int .u32 (S.e.toNat : Int), .int .u32 (S.f.toNat : Int), .int .u32 (S.g.toNat : Int), .int .u32 (S.h.toNat : Int), .slice A R.length c, .int .u64 (m : Int)] ∧ Rd vB wr A R ∧ (∀ a, A = some a → a.block ≠ g) ∧ Below w.heap.size w wr
/-- Behind the call of More. -/
def GoesCut (t T : List UInt8) (w : World) (g : Nat) (v : Value) (H : List Value) (u f : Value) (wr : World) : Prop :=
  ∃ (gk : Nat) (S : St) (R : List UInt8) (A : Option Addr) (c m : Nat), u = .pointer (some ⟨gk, 0, none⟩) ∧ f = .int .i64 0 ∧ wr.ownsRow (g + 1) 5 1 v t.length (t.map vB) ∧
    Hid (HashOf startSt T S R m) ∧ R.length < 64 ∧ Row wr gk 27 [.int .u32 (S.a.toNat : Int), .int .u32 (S.b.toNat : Int), .int .u32 (S.c.toNat : Int), .int .u32 (S.d.toNat : Int), .int .u32 (S.e.toNat : Int), .int .u32 (S.f.toNat : Int), .int .u32 (S.g.toNat : Int), .int .u32 (S.h.toNat : Int), .slice A R.length c, .int .u64 (m : Int)] ∧ Row wr g 27 H ∧ Rd vB wr A R ∧ (∀ a, A = some a → a.block ≠ g ∧ v.ownBlock ≠ some a.block) ∧ Below w.heap.size w wr
def goesS (g : Nat) (l : List Value) (b o : Nat) (x : Value) (W : World) : Prop := W.cell? ⟨b, o, none⟩ = some x ∧ W.rangeAt g 0 l
/-- What a law says. -/
def Yes (w : World) (e : Ending) (w' : World) : Prop := e = .returned (.bool true) ∧ Below w.heap.size w w'

set_option maxRecDepth 100000 in
set_option maxHeartbeats 2000000 in
theorem shagoes_core (ps : List Part) (A0 : Option Addr) (c0 : Nat) (w : World) (hps : Rd vPart w A0 ps) (hp : ∀ p ∈ ps, Rd vB w p.A p.l) (hpl : ∀ p ∈ ps, p.l.length ≤ 9223372036854775807) (hl : ps.length ≤ 20) (HK : Hid (KTab w)) :
    Calls Tryd.prog 4 #[.slice A0 ps.length c0] w (Yes w) := by
  obtain ⟨i0, hi, hz0, hz1, hz2⟩ := info_parts info_u8
  have HP := Lib.hid hp
  have HPL := Lib.hid hpl
  clear hp hpl
  go_enter Tryd.func4, Tryd.ntmps4
  go_wp2_with fail
  refine (awake_any _ HK).mono ?_
  rintro e w1 ⟨rfl, hb1⟩
  go_wp2_with fail
  refine (start_any _).mono ?_
  rintro e w2 ⟨S0, HS0, rfl, hb2⟩
  have hB2 := below_step hb1 hb2
  have HH0 : Hid (HashOf startSt [] S0 [] 0) := by rw [HS0.out]; exact HashOf.none _
  clear hb1 hb2 HS0
  go_upto_region 6 with fail
  refine at_world (Q := Code.wp _ _ _ _) (fun W => Row W w2.heap.size 27 [.int .u32 (S0.a.toNat : Int), .int .u32 (S0.b.toNat : Int), .int .u32 (S0.c.toNat : Int), .int .u32 (S0.d.toNat : Int), .int .u32 (S0.e.toNat : Int), .int .u32 (S0.f.toNat : Int), .int .u32 (S0.g.toNat : Int), .int .u32 (S0.h.toNat : Int), .slice none ([] : List UInt8).length 0, .int .u64 ((0 : Nat) : Int)] ∧ Below w.heap.size w W ∧ W.heap.size = w2.heap.size + 1)
    ⟨Row.new w2 _ _ _ rfl, below_new hB2 _, by simp⟩ ?_
  have hz := hB2.size
  clear hB2
  rintro W ⟨hR, hB, hsz⟩
  have HSZ := Lib.hid hsz
  clear hsz
  go_wp2_with fail
  go_loopw [4, 5] (fun v i wr => GoesRel ps w w2.heap.size v i wr) (fun _ i _ => ps.length - (intOf i).toNat)
  case atStart => exact ⟨0, [], S0, [], none, 0, 0, by omega, rfl, by simp, World.ownsRow_nil _ _ _ _, HH0, hR, Rd.nil, (fun a h => by cases h), hB⟩
  case round =>
    clear hR hB HH0 HSZ
    obtain ⟨k, t, S, R, A, c, m, hk, rfl, htl, hown, HH, hR, hrR, hNA, hB⟩ := hrel
    have hg := hR.lt
    by_cases hlt : k < ps.length
    · obtain ⟨blk, o, rfl, hblk, hcell⟩ := hps.at hlt
      have hc0 : ∀ W, Below w.heap.size w W → W.cell? ⟨blk, o + k, none⟩ = some (vPart ps[k]) := fun W hW => (hW.cell (p := ⟨blk, o + k, none⟩) hblk).trans (hcell k hlt)
      have hpk := HP.out ps[k] (List.getElem_mem hlt)
      have hpm := HPL.out ps[k] (List.getElem_mem hlt)
      generalize ps[k] = p at hc0 hpk hpm
      obtain ⟨pA, pc, pl⟩ := p
      unfold vPart at hc0
      dsimp only at hc0 hpk hpm
      have HC := Lib.hid hc0
      have hc1 := hc0 wr hB
      clear hcell hc0
      have i1 : (0 : Int) ≤ (k : Int) := by omega
      have i2 : (k : Int) < (ps.length : Int) := by omega
      by_cases hp3 : pl.length ≤ 300
      · obtain ⟨T, hT⟩ : ∃ T, T = t ++ pl := ⟨_, rfl⟩
        have HT := Lib.hid hT
        have HTl : Hid (T.length = t.length + pl.length) := by unfold Hid; rw [hT, List.length_append]
        have hT3 : T.length ≤ 300 * (k + 1) := by have := HTl.out; omega
        clear hT
        go_upto_region 12 with fail
        clear hc1
        go_cut [6, 7] (fun u f wx => GoesCut t T w w2.heap.size u4 [.int .u32 (S.a.toNat : Int), .int .u32 (S.b.toNat : Int), .int .u32 (S.c.toNat : Int), .int .u32 (S.d.toNat : Int), .int .u32 (S.e.toNat : Int), .int .u32 (S.f.toNat : Int), .int .u32 (S.g.toNat : Int), .int .u32 (S.h.toNat : Int), .slice A R.length c, .int .u64 (m : Int)] u f wx)
        case first =>
          refine wp_region_plan_of (goesS w2.heap.size [.int .u32 (S.a.toNat : Int), .int .u32 (S.b.toNat : Int), .int .u32 (S.c.toNat : Int), .int .u32 (S.d.toNat : Int), .int .u32 (S.e.toNat : Int), .int .u32 (S.f.toNat : Int), .int .u32 (S.g.toNat : Int), .int .u32 (S.h.toNat : Int), .slice A R.length c, .int .u64 (m : Int)] blk (o + k) (.slice pA pl.length pc)) (.step 0 false (.step 1 false (.step 2 false (.step 3 false (.step 4 false (.fork 5 (.step 6 false (.step 7 false (.step 8 false (.step 9 true (.step 10 true (.step 11 false .nil)))))) 9 (.step 5 true (.step 6 false (.step 7 false (.step 8 false (.step 10 true (.step 11 false .nil))))))))))))
            ⟨HC.out _ hB.drew, hR.drew.range⟩ (by kernel_rfl) (by kernel_rfl) (by rfl) (by kernel_rfl) ?_
          refine at_world (Q := wpPlan _ _ _ _ _ _) (fun W => W.ownsRow (w2.heap.size + 1) 5 1 u4 t.length (t.map vB) ∧ Row W w2.heap.size 27 [.int .u32 (S.a.toNat : Int), .int .u32 (S.b.toNat : Int), .int .u32 (S.c.toNat : Int), .int .u32 (S.d.toNat : Int), .int .u32 (S.e.toNat : Int), .int .u32 (S.f.toNat : Int), .int .u32 (S.g.toNat : Int), .int .u32 (S.h.toNat : Int), .slice A R.length c, .int .u64 (m : Int)] ∧ Rd vB W A R ∧ Below w.heap.size w W) ⟨hown.drew, hR.drew, hrR, hB.drew⟩ ?_
          clear hown hR hrR hB hg
          rintro W0 ⟨hown, hR, hrR, hB⟩
          have hg := hR.lt
          refine plan_load rfl (by rfl) 27 (.tmp 3) (by rfl) w2.heap.size 0 (by rfl) [.int .u32 (S.a.toNat : Int), .int .u32 (S.b.toNat : Int), .int .u32 (S.c.toNat : Int), .int .u32 (S.d.toNat : Int), .int .u32 (S.e.toNat : Int), .int .u32 (S.f.toNat : Int), .int .u32 (S.g.toNat : Int), .int .u32 (S.h.toNat : Int), .slice A R.length c, .int .u64 (m : Int)] _ (fun W hW => hW.2) Tryd.underlying27 rfl (by exact size_hash) ?_
          simp only [List.getElem_toArray, List.getElem_cons_zero, List.getElem_cons_succ, Act.put, List.setIfInBounds_toArray, List.set_cons_zero, List.set_cons_succ]
          iterate 4 (refine plan_read rfl (by rfl) (v := ?_) ?_ ?_; rotate_left 1; (intro W hW; (try dsimp only at hW); obtain ⟨hW0, hW1⟩ := hW; go_simp <;> with_reducible rfl); simp only [List.getElem_toArray, List.getElem_cons_zero, List.getElem_cons_succ, Act.put, List.setIfInBounds_toArray, List.set_cons_zero, List.set_cons_succ])
          refine plan_fork rfl rfl (by rfl) (by rfl) (fun K hK => ?_) (fun K hK => ?_)
          · go_simp
            refine (more_text startSt t pl S R A pA c pc m _ HH hrR (hpk.keep hB) (by omega) (Lib.hid (HK.out.keep hB))).mono ?_
            rintro e W1 ⟨S1, R1, A1, c1, m1, HH1, rfl, hc1, hn1, hr1, hN1, hb1⟩
            rw [← HT.out] at HH1
            have hown0 := hown.lt
            replace hown := ownsRow_later hown hb1
            replace hR := hR.later hb1
            have hz1' := hb1.size
            replace hB := below_step hB hb1
            refine hK.out _ _ ⟨HC.out _ hB, hR.range⟩ ?_
            clear hK K hb1 hrR
            iterate 3 (refine plan_read rfl (by rfl) (v := ?_) ?_ ?_; rotate_left 1; (intro W hW; (try dsimp only at hW); obtain ⟨hW0, hW1⟩ := hW; go_simp <;> with_reducible rfl); simp only [List.getElem_toArray, List.getElem_cons_zero, List.getElem_cons_succ, Act.put, List.setIfInBounds_toArray, List.set_cons_zero, List.set_cons_succ])
            refine plan_make_of rfl (by rfl) (fun K hK => ?_)
            go_simp
            refine hK.out _ _ ⟨HC.out _ (below_new hB _), (hR.alloc _).range⟩ ?_
            clear hK K
            have hRk := Row.new W1 27 zeroL #[.int .u32 0, .int .u32 0, .int .u32 0, .int .u32 0, .int .u32 0, .int .u32 0, .int .u32 0, .int .u32 0, .slice none 0 0, .int .u64 0] rfl
            have hbn : Below W1.heap.size W1 ((W1.alloc (.cells #[.int .u32 0, .int .u32 0, .int .u32 0, .int .u32 0, .int .u32 0, .int .u32 0, .int .u32 0, .int .u32 0, .slice none 0 0, .int .u64 0] 27)).setRow W1.heap.size [.int .u32 (S1.a.toNat : Int), .int .u32 (S1.b.toNat : Int), .int .u32 (S1.c.toNat : Int), .int .u32 (S1.d.toNat : Int), .int .u32 (S1.e.toNat : Int), .int .u32 (S1.f.toNat : Int), .int .u32 (S1.g.toNat : Int), .int .u32 (S1.h.toNat : Int), .slice A1 R1.length c1, .int .u64 (m1 : Int)].toArray) := below_setRow (below_new (Below.refl _ _) _) (Nat.le_refl _) _
            refine plan_make_of rfl (by rfl) (fun K hK => ?_)
            refine hRk.wp_store 27 (.tmp 6) (.tmp 35) (by rfl) (by rfl) [.int .u32 (S1.a.toNat : Int), .int .u32 (S1.b.toNat : Int), .int .u32 (S1.c.toNat : Int), .int .u32 (S1.d.toNat : Int), .int .u32 (S1.e.toNat : Int), .int .u32 (S1.f.toNat : Int), .int .u32 (S1.g.toNat : Int), .int .u32 (S1.h.toNat : Int), .slice A1 R1.length c1, .int .u64 (m1 : Int)] (by rfl) (by exact size_hash) (by rfl) (one_hash S1 A1 R1.length c1 m1) ?_
            simp only [List.getElem_toArray, List.getElem_cons_zero, List.getElem_cons_succ, Act.put, List.setIfInBounds_toArray, List.set_cons_zero, List.set_cons_succ]
            refine hK.out _ _ ⟨HC.out _ (below_step hB hbn), (hR.later hbn).range⟩ ?_
            clear hK K
            iterate 1 (refine plan_read rfl (by rfl) (v := ?_) ?_ ?_; rotate_left 1; (intro W hW; (try dsimp only at hW); obtain ⟨hW0, hW1⟩ := hW; go_simp <;> with_reducible rfl); simp only [List.getElem_toArray, List.getElem_cons_zero, List.getElem_cons_succ, Act.put, List.setIfInBounds_toArray, List.set_cons_zero, List.set_cons_succ])
            refine plan_done ?_
            have HR : Hid (GoesCut t T w w2.heap.size u4 [.int .u32 (S.a.toNat : Int), .int .u32 (S.b.toNat : Int), .int .u32 (S.c.toNat : Int), .int .u32 (S.d.toNat : Int), .int .u32 (S.e.toNat : Int), .int .u32 (S.f.toNat : Int), .int .u32 (S.g.toNat : Int), .int .u32 (S.h.toNat : Int), .slice A R.length c, .int .u64 (m : Int)] (.pointer (some ⟨W1.heap.size, 0, none⟩)) (.int .i64 0) _) :=
              ⟨W1.heap.size, S1, R1, A1, c1, m1, rfl, rfl, ownsRow_later hown hbn, HH1, hn1, hRk.setRow _, hR.later hbn, hr1.keep hbn, (fun a ha => ⟨by have := hN1 a ha; omega, fun hx => by have := hN1 a ha; have := (hown0 _ hx).2; omega⟩), below_step hB hbn⟩
            clear hown hR hB hRk hbn hr1
            go_wp2_with fail
            go_meet
            case rel => exact HR.out
          · go_simp
            refine hK.out _ _ ⟨HC.out _ (below_new hB _), (hR.alloc _).range⟩ ?_
            clear hK K
            refine at_world (Q := wpPlan _ _ _ _ _ _) (fun W => Row W W0.heap.size 27 zeroL ∧ W.ownsRow (w2.heap.size + 1) 5 1 u4 t.length (t.map vB) ∧ Row W w2.heap.size 27 [.int .u32 (S.a.toNat : Int), .int .u32 (S.b.toNat : Int), .int .u32 (S.c.toNat : Int), .int .u32 (S.d.toNat : Int), .int .u32 (S.e.toNat : Int), .int .u32 (S.f.toNat : Int), .int .u32 (S.g.toNat : Int), .int .u32 (S.h.toNat : Int), .slice A R.length c, .int .u64 (m : Int)] ∧ Rd vB W A R ∧ Below w.heap.size w W ∧ Below W0.heap.size W0 W)
              ⟨Row.new W0 _ _ _ rfl, hown.alloc _, hR.alloc _, hrR.keep (below_new (Below.refl _ _) _), below_new hB _, below_new (Below.refl _ _) _⟩ ?_
            have HOwn := Lib.hid hown
            have hl3 := hB.size
            clear hown hR hrR hB
            rintro W1 ⟨hRk, hown, hR, hrR, hB, hB0⟩
            have hkl := hRk.lt
            refine plan_make_of rfl (by rfl) (fun K hK => ?_)
            go_simp
            refine (more_text startSt t pl S R A pA c pc m _ HH hrR (hpk.keep hB) (by omega) (Lib.hid (HK.out.keep hB))).mono ?_
            rintro e W2 ⟨S1, R1, A1, c1, m1, HH1, rfl, hc1, hn1, hr1, hN1, hb1⟩
            rw [← HT.out] at HH1
            replace hRk := hRk.later hb1
            replace hR := hR.later hb1
            replace hB := below_step hB hb1
            replace hB0 := below_step hB0 hb1
            refine hK.out _ _ ⟨HC.out _ hB, hR.range⟩ ?_
            clear hK K hb1 hrR hown
            iterate 3 (refine plan_read rfl (by rfl) (v := ?_) ?_ ?_; rotate_left 1; (intro W hW; (try dsimp only at hW); obtain ⟨hW0, hW1⟩ := hW; go_simp <;> with_reducible rfl); simp only [List.getElem_toArray, List.getElem_cons_zero, List.getElem_cons_succ, Act.put, List.setIfInBounds_toArray, List.set_cons_zero, List.set_cons_succ])
            have hbn : Below W0.heap.size W0 (W2.setRow W0.heap.size [.int .u32 (S1.a.toNat : Int), .int .u32 (S1.b.toNat : Int), .int .u32 (S1.c.toNat : Int), .int .u32 (S1.d.toNat : Int), .int .u32 (S1.e.toNat : Int), .int .u32 (S1.f.toNat : Int), .int .u32 (S1.g.toNat : Int), .int .u32 (S1.h.toNat : Int), .slice A1 R1.length c1, .int .u64 (m1 : Int)].toArray) := below_setRow hB0 (Nat.le_refl _) _
            have hBn : Below w.heap.size w (W2.setRow W0.heap.size [.int .u32 (S1.a.toNat : Int), .int .u32 (S1.b.toNat : Int), .int .u32 (S1.c.toNat : Int), .int .u32 (S1.d.toNat : Int), .int .u32 (S1.e.toNat : Int), .int .u32 (S1.f.toNat : Int), .int .u32 (S1.g.toNat : Int), .int .u32 (S1.h.toNat : Int), .slice A1 R1.length c1, .int .u64 (m1 : Int)].toArray) := below_setRow hB hl3 _
            refine plan_make_of rfl (by rfl) (fun K hK => ?_)
            refine hRk.wp_store 27 (.tmp 6) (.tmp 35) (by rfl) (by rfl) [.int .u32 (S1.a.toNat : Int), .int .u32 (S1.b.toNat : Int), .int .u32 (S1.c.toNat : Int), .int .u32 (S1.d.toNat : Int), .int .u32 (S1.e.toNat : Int), .int .u32 (S1.f.toNat : Int), .int .u32 (S1.g.toNat : Int), .int .u32 (S1.h.toNat : Int), .slice A1 R1.length c1, .int .u64 (m1 : Int)] (by rfl) (by exact size_hash) (by rfl) (one_hash S1 A1 R1.length c1 m1) ?_
            simp only [List.getElem_toArray, List.getElem_cons_zero, List.getElem_cons_succ, Act.put, List.setIfInBounds_toArray, List.set_cons_zero, List.set_cons_succ]
            refine hK.out _ _ ⟨HC.out _ hBn, (hR.setRow_other (by omega) _).range⟩ ?_
            clear hK K
            iterate 1 (refine plan_read rfl (by rfl) (v := ?_) ?_ ?_; rotate_left 1; (intro W hW; (try dsimp only at hW); obtain ⟨hW0, hW1⟩ := hW; go_simp <;> with_reducible rfl); simp only [List.getElem_toArray, List.getElem_cons_zero, List.getElem_cons_succ, Act.put, List.setIfInBounds_toArray, List.set_cons_zero, List.set_cons_succ])
            refine plan_done ?_
            have HR : Hid (GoesCut t T w w2.heap.size u4 [.int .u32 (S.a.toNat : Int), .int .u32 (S.b.toNat : Int), .int .u32 (S.c.toNat : Int), .int .u32 (S.d.toNat : Int), .int .u32 (S.e.toNat : Int), .int .u32 (S.f.toNat : Int), .int .u32 (S.g.toNat : Int), .int .u32 (S.h.toNat : Int), .slice A R.length c, .int .u64 (m : Int)] (.pointer (some ⟨W0.heap.size, 0, none⟩)) (.int .i64 0) _) :=
              ⟨W0.heap.size, S1, R1, A1, c1, m1, rfl, rfl, ownsRow_later HOwn.out hbn, HH1, hn1, hRk.setRow _, hR.setRow_other (by omega) _, hr1.setRow _ (fun a ha => by have := hN1 a ha; omega), (fun a ha => ⟨by have := hN1 a ha; omega, fun hx => by have := hN1 a ha; have := (HOwn.out.lt _ hx).2; omega⟩), hBn⟩
            clear hR hB hRk hbn hr1 hBn hB0 HOwn
            go_wp2_with fail
            go_meet
            case rel => exact HR.out
        case rest =>
          clear hown hR hrR hB hg HH
          obtain ⟨gk, S1, R1, A1, c1, m1, rfl, rfl, hown, HH1, hn1, hRk, hR, hr1, hN1, hB⟩ := hcut
          have hg := hR.lt
          have c8 : wc.cell? ⟨gk, 8, none⟩ = some (.slice A1 R1.length c1) := hRk.cell rfl
          have h63 : decide ((63 : Int) < (R1.length : Int)) = false := by simp; omega
          go_upto_region 16 with (first
            | (refine wpList_load_part rfl 27 (.tmp 6) rfl gk 0 rfl _ _ hRk [.int .u32 (S1.a.toNat : Int), .int .u32 (S1.b.toNat : Int), .int .u32 (S1.c.toNat : Int), .int .u32 (S1.d.toNat : Int), .int .u32 (S1.e.toNat : Int), .int .u32 (S1.f.toNat : Int), .int .u32 (S1.g.toNat : Int), .int .u32 (S1.h.toNat : Int), .slice A1 R1.length c1, .int .u64 (m1 : Int)] (by rfl) _ Tryd.underlying27 rfl (by exact size_hash) ?_)
            | (refine wpList_store_row rfl 27 (.tmp 3) (.tmp 45) rfl w2.heap.size rfl [.int .u32 (S1.a.toNat : Int), .int .u32 (S1.b.toNat : Int), .int .u32 (S1.c.toNat : Int), .int .u32 (S1.d.toNat : Int), .int .u32 (S1.e.toNat : Int), .int .u32 (S1.f.toNat : Int), .int .u32 (S1.g.toNat : Int), .int .u32 (S1.h.toNat : Int), .slice A1 R1.length c1, .int .u64 (m1 : Int)] rfl _ _ hR (by exact size_hash) (by rfl) (one_hash S1 A1 R1.length c1 m1) ?_))
          refine at_world (Q := Code.wp _ _ _ _) (fun W => W.ownsRow (w2.heap.size + 1) 5 1 u4 t.length (t.map vB) ∧ Row W w2.heap.size 27 [.int .u32 (S1.a.toNat : Int), .int .u32 (S1.b.toNat : Int), .int .u32 (S1.c.toNat : Int), .int .u32 (S1.d.toNat : Int), .int .u32 (S1.e.toNat : Int), .int .u32 (S1.f.toNat : Int), .int .u32 (S1.g.toNat : Int), .int .u32 (S1.h.toNat : Int), .slice A1 R1.length c1, .int .u64 (m1 : Int)] ∧ Rd vB W A1 R1 ∧ Below w.heap.size w W)
            ⟨ownsRow_same hown (fun b hb _ => Go.setRow_other _ _ _ _ (by omega)), hR.setRow _, hr1.setRow _ (fun a ha => (hN1 a ha).1), below_setRow hB hz _⟩ ?_
          clear hown hR hr1 hB hRk c8 h63 hg
          rintro W ⟨hown, hR, hr1, hB⟩
          have hg := hR.lt
          have hc1 := HC.out W hB
          go_upto_region 17 with (at_builtin; refine wpList_append_rd _ rfl (.tmp 46) (.tmp 50) 24 rfl (w2.heap.size + 1) 5 i0 (.int .u8 0) 1 Tryd.underlying24 hi hz0 hz1 hz2 rfl _ _ _ rfl hown pA pl pc rfl (hpk.keep hB) vB_one (by unfold maxLen; omega) (by omega) (by omega) ?_; intro v5 w5 hown5 hgrow5)
          clear hc1
          have hb5 : Below (w2.heap.size + 1) W w5 := (Below.refl _ W).grown hgrow5 (by omega) (fun k hk => (hown.lt k hk).1)
          have hB5 : Below w.heap.size w w5 := hB.trans (hb5.mono (by omega))
          replace hR := hR.keep hb5 (Nat.lt_succ_self _)
          replace hr1 := hr1.grown hgrow5 (fun a ha => (hN1 a ha).2)
          have hown6 : w5.ownsRow (w2.heap.size + 1) 5 1 v5 T.length (T.map vB) := by rw [HTl.out, HT.out, List.map_append]; exact hown5
          obtain ⟨A5, c5, rfl, hc5, hr5⟩ := own_slice hown6
          clear hown5 hown hgrow5 hb5 hB hg
          go_wp2_with (refine wpList_load_part rfl 27 (.tmp 3) rfl w2.heap.size 0 rfl _ _ hR [.int .u32 (S1.a.toNat : Int), .int .u32 (S1.b.toNat : Int), .int .u32 (S1.c.toNat : Int), .int .u32 (S1.d.toNat : Int), .int .u32 (S1.e.toNat : Int), .int .u32 (S1.f.toNat : Int), .int .u32 (S1.g.toNat : Int), .int .u32 (S1.h.toNat : Int), .slice A1 R1.length c1, .int .u64 (m1 : Int)] (by rfl) _ Tryd.underlying27 rfl (by exact size_hash) ?_)
          refine (end_text T S1 R1 A1 _ _ _ HH1 (by omega) hr1 (Lib.hid (HK.out.keep hB5))).mono ?_
          rintro e w6 ⟨A6, c6, rfl, hc6, hr6, hb6⟩
          have h32 := sumL_length T
          generalize hX : sumL T = X at hc6 hr6 h32
          have HX := Lib.hid hX
          have H32 := Lib.hid h32
          rw [h32]
          clear hX h32
          replace hown6 := ownsRow_later hown6 hb6
          replace hR := hR.later hb6
          replace hr1 := hr1.keep hb6
          replace hr5 := hr5.keep hb6
          replace hB5 := below_step hB5 hb6
          clear hb6
          have hs1 : ∀ W, Below w6.heap.size w6 W → (convert 24 9 (.slice A6 32 c6)).run Tryd.prog W = .ok (.string ⟨X.toArray⟩) W := fun W hW => run_str W _ _ _ Tryd.underlying24 Tryd.underlying5 Tryd.underlying9 A6 X 32 c6 H32.out (hr6.keep hW)
          go_wp2_with fail
          have hBase : Below w6.heap.size w6 w6.drew := (Below.refl _ _).drew
          refine wp_region_plan (.step 0 false (.step 1 false (.step 2 false (.step 3 false (.step 4 false (.step 5 false (.step 6 true (.step 7 false (.step 8 false (.step 9 false (.step 10 false (.step 11 false (.step 12 false (.step 13 false (.step 14 false (.nil)))))))))))))))) (by kernel_rfl) (by kernel_rfl) (by rfl) (by kernel_rfl) ?_
          iterate 6 (refine plan_read rfl (by rfl) (v := ?_) ?_ ?_; rotate_left 1; (intro W hW; have hW0 := below_step hBase hW; (try dsimp only at hW); go_simp <;> with_reducible rfl); simp only [List.getElem_toArray, List.getElem_cons_zero, List.getElem_cons_succ, Act.put, List.setIfInBounds_toArray, List.set_cons_zero, List.set_cons_succ])
          (refine plan_make rfl (by rfl) (fun K hK => ?_); go_simp; (refine (sum_any T _ _ _ (by exact hr5) hc5 (by omega) (by exact Lib.hid (HK.out.keep hB5.drew))).mono ?_; rintro e w7 ⟨A7, c7, rfl, hc7, hr7, hbx⟩; rw [HX.out] at hc7 hr7 ⊢; rw [H32.out]); refine hK.out _ _ hbx ?_; clear hK K; replace hBase := below_step hBase hbx)
          have hs2 : ∀ W, Below w7.heap.size w7 W → (convert 24 9 (.slice A7 32 c7)).run Tryd.prog W = .ok (.string ⟨X.toArray⟩) W := fun W hW => run_str W _ _ _ Tryd.underlying24 Tryd.underlying5 Tryd.underlying9 A7 X 32 c7 H32.out (hr7.keep hW)
          iterate 8 (refine plan_read rfl (by rfl) (v := ?_) ?_ ?_; rotate_left 1; (intro W hW; have hW0 := below_step hBase hW; (try dsimp only at hW); go_simp <;> with_reducible rfl); simp only [List.getElem_toArray, List.getElem_cons_zero, List.getElem_cons_succ, Act.put, List.setIfInBounds_toArray, List.set_cons_zero, List.set_cons_succ])
          refine plan_done ?_
          have HR : Hid (GoesRel ps w w2.heap.size (.slice A5 T.length c5) (.int .i64 ((k : Int) + 1)) w7) :=
            ⟨k + 1, T, S1, R1, A1, c1, m1, by omega, by go_num, by omega, ownsRow_later hown6 hBase, HH1, hR.later hBase, hr1.keep hBase, (fun a ha => (hN1 a ha).1), below_step hB5 hBase⟩
          clear hs1 hs2 hown6 hR hr1 hB5 hr5 hr6 hr7 hBase
          go_wp2_with fail
          go_roundw
          case rel => exact HR.out
          case measure => simp [intOf]; omega
      · have h300 : (300 : Int) < (pl.length : Int) := by omega
        go_wp2_with fail
        go_ret
        exact ⟨rfl, hB⟩
    · obtain ⟨A5, c5, rfl, hc5, hr5⟩ := own_slice hown
      have hmt : m = t.length := by
        have h3 := HH.out.2.2
        rw [h3]
        exact Nat.mod_eq_of_lt (by omega)
      subst hmt
      have c9 : wr.cell? ⟨w2.heap.size, 9, none⟩ = some (.int .u64 (t.length : Int)) := hR.cell rfl
      go_wp2_with fail
      go_ret
      exact ⟨rfl, hB⟩
end Go.Proofs.YtdadnmnhaeohaaaDoor
