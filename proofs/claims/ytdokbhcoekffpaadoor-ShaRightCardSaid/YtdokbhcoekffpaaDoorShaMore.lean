/-
  What the program's call More of layer 2 answers. Condition: the package's table holds the sixty-four constants.
-/
import Derived.Test.YtdokbhcoekffpaaDoorShaCalls
import Derived.Deep.DeepCutAuto
namespace Go.Proofs.YtdokbhcoekffpaaDoor
open Go.RowKit
set_option linter.unusedSimpArgs false
set_option linter.unusedVariables false

/-- A whole block, or a part of it, read in a region that draws its order. -/
theorem plan_load {P : Program} {ops : Array Oper} {Q : Exit → Act → World → Prop} {i : Nat} {rest : Plan} {S : World → Prop} {o : Oper} {a : Act} {w : World} (ho : ops[i]? = some o) (hw : Region.wanted o (yielded ops a.tmps) = true) (ty : TypeId) (x : Operand) (hop : o.op = .load ty x)
    (b off : Nat) (hx : a.eval x = .pointer (some ⟨b, off, none⟩)) (cs : List Value) (d : TypeDesc) (hS : ∀ W, S W → W.rangeAt b off cs) (hu : P.underlying ty = some d) (hd : d.isRow = true) (hi : (P.info? ty).map (·.size) = some cs.length)
    (h : wpPlan P ops Q rest S (a.put o.dst (.agg cs.toArray)) w) : wpPlan P ops Q (.step i false rest) S a w :=
  plan_read ho hw (fun W hW => by
    unfold execOp
    simp only [hop, hx, Instr.loadAt, Instr.sureAddr, Sem.run_bind, Sem.run_pure, Result.andThen_ok, run_loadVar_mid W b off ty cs d (hS W hW) hu hd hi]) h

abbrev hashL (s : St) (x y : Value) : List Value := [.int .u32 (s.a.toNat : Int), .int .u32 (s.b.toNat : Int), .int .u32 (s.c.toNat : Int), .int .u32 (s.d.toNat : Int), .int .u32 (s.e.toNat : Int), .int .u32 (s.f.toNat : Int), .int .u32 (s.g.toNat : Int), .int .u32 (s.h.toNat : Int), x, y]
abbrev zeroL : List Value := [.int .u32 0, .int .u32 0, .int .u32 0, .int .u32 0, .int .u32 0, .int .u32 0, .int .u32 0, .int .u32 0, .slice none 0 0, .int .u64 0]
theorem size_hash : (Tryd.prog.info? 27).map (·.size) = some 10 := by kernel_rfl
theorem one_hash (s : St) (A : Option Addr) (n c : Nat) (m : Int) : ∀ v ∈ ([.int .u32 (s.a.toNat : Int), .int .u32 (s.b.toNat : Int), .int .u32 (s.c.toNat : Int), .int .u32 (s.d.toNat : Int), .int .u32 (s.e.toNat : Int), .int .u32 (s.f.toNat : Int), .int .u32 (s.g.toNat : Int), .int .u32 (s.h.toNat : Int), .slice A n c, .int .u64 m] : List Value), v.oneCell' = true := by
  intro v hv
  simp only [List.mem_cons, List.not_mem_nil, or_false] at hv
  rcases hv with rfl | rfl | rfl | rfl | rfl | rfl | rfl | rfl | rfl | rfl <;> rfl
/-- What the reads of More lean on: the box that came in (and, behind the blocks, the state's own). -/
def boxS (g : Nat) (l : List Value) (W : World) : Prop := W.cell? ⟨g, 8, none⟩ = l[8]? ∧ W.cell? ⟨g, 9, none⟩ = l[9]? ∧ W.rangeAt g 0 (l.take 8)
theorem boxS_of {g : Nat} {t : TypeId} {l : List Value} {W : World} (h : Row W g t l) : boxS g l W := ⟨h.cell? 8, h.cell? 9, fun j v hv => by
  rw [Nat.zero_add]
  refine h.cell ?_
  rw [List.getElem?_take] at hv
  split at hv
  · exact hv
  · cases hv⟩
/-- A call that hands back a hash that goes on, and how it went. -/
def RetH (w : World) (s : St) (r : List UInt8) (many : Nat) (n : Int) (e : Ending) (w' : World) : Prop :=
  ∃ (S : St) (A : Option Addr) (c m : Nat), Hid (S = s) ∧ Hid (m = many) ∧ e = .returned (.tuple #[.agg #[.int .u32 (S.a.toNat : Int), .int .u32 (S.b.toNat : Int), .int .u32 (S.c.toNat : Int), .int .u32 (S.d.toNat : Int), .int .u32 (S.e.toNat : Int), .int .u32 (S.f.toNat : Int), .int .u32 (S.g.toNat : Int), .int .u32 (S.h.toNat : Int), .slice A r.length c, .int .u64 (m : Int)], .int .i64 n]) ∧ r.length ≤ c ∧ Rd vB w' A r ∧ (∀ a, A = some a → w.heap.size ≤ a.block) ∧ Below w.heap.size w w'

set_option maxRecDepth 100000 in
set_option maxHeartbeats 1000000 in
theorem more_bad (s : St) (r b : List UInt8) (A B : Option Addr) (c d many : Nat) (w : World) (hr : Rd vB w A r) (hn : 64 ≤ r.length) (hl : r.length ≤ 70368744177664) :
    Calls Tryd.prog 13 #[.agg #[.int .u32 (s.a.toNat : Int), .int .u32 (s.b.toNat : Int), .int .u32 (s.c.toNat : Int), .int .u32 (s.d.toNat : Int), .int .u32 (s.e.toNat : Int), .int .u32 (s.f.toNat : Int), .int .u32 (s.g.toNat : Int), .int .u32 (s.h.toNat : Int), .slice A r.length c, .int .u64 (many : Int)], .slice B b.length d] w (RetH w s r many 1) := by
  go_enter Tryd.func13, Tryd.ntmps13
  go_upto_region 1 with fail
  refine at_world (Q := Code.wp _ _ _ _) (fun W => Row W w.heap.size 27 [.int .u32 (s.a.toNat : Int), .int .u32 (s.b.toNat : Int), .int .u32 (s.c.toNat : Int), .int .u32 (s.d.toNat : Int), .int .u32 (s.e.toNat : Int), .int .u32 (s.f.toNat : Int), .int .u32 (s.g.toNat : Int), .int .u32 (s.h.toNat : Int), .slice A r.length c, .int .u64 (many : Int)] ∧ Row W (w.heap.size + 1) 27 zeroL ∧ Below w.heap.size w W)
    ⟨(Row.new w _ _ _ rfl).alloc _, Row.new_at _ _ (by simp) _ _ _ rfl, below_new (below_new (Below.refl _ _) _) _⟩ ?_
  rintro W ⟨hR0, hR1, hB⟩
  have hlt := hR1.lt
  have hc8 : W.cell? ⟨w.heap.size, 8, none⟩ = some (.slice A r.length c) := hR0.cell rfl
  go_wp2_with fail
  clear hc8
  refine wp_region_plan_of (boxS w.heap.size [.int .u32 (s.a.toNat : Int), .int .u32 (s.b.toNat : Int), .int .u32 (s.c.toNat : Int), .int .u32 (s.d.toNat : Int), .int .u32 (s.e.toNat : Int), .int .u32 (s.f.toNat : Int), .int .u32 (s.g.toNat : Int), .int .u32 (s.h.toNat : Int), .slice A r.length c, .int .u64 (many : Int)]) (.step 0 false (.step 1 false (.step 2 false (.step 3 false (.step 5 false (.step 6 false (.step 4 true (.step 7 false (.step 8 true (.step 9 false (.nil))))))))))) (boxS_of hR0.drew) (by kernel_rfl) (by kernel_rfl) (by rfl) (by kernel_rfl) ?_
  iterate 1 (refine plan_read rfl (by rfl) (v := ?_) ?_ ?_; rotate_left 1; (intro W hW; (try dsimp only at hW); obtain ⟨hW0, hW1⟩ := hW; go_simp <;> with_reducible rfl); simp only [List.getElem_toArray, List.getElem_cons_zero, List.getElem_cons_succ, Act.put, List.setIfInBounds_toArray, List.set_cons_zero, List.set_cons_succ])
  refine plan_load rfl (by rfl) 23 (.tmp 12) (by rfl) w.heap.size 0 (by rfl) [.int .u32 (s.a.toNat : Int), .int .u32 (s.b.toNat : Int), .int .u32 (s.c.toNat : Int), .int .u32 (s.d.toNat : Int), .int .u32 (s.e.toNat : Int), .int .u32 (s.f.toNat : Int), .int .u32 (s.g.toNat : Int), .int .u32 (s.h.toNat : Int)] _ (fun W hW => hW.2.2) Tryd.underlying23 rfl (by exact size_st) ?_
  simp only [List.getElem_toArray, List.getElem_cons_zero, List.getElem_cons_succ, Act.put, List.setIfInBounds_toArray, List.set_cons_zero, List.set_cons_succ]
  iterate 4 (refine plan_read rfl (by rfl) (v := ?_) ?_ ?_; rotate_left 1; (intro W hW; (try dsimp only at hW); obtain ⟨hW0, hW1⟩ := hW; go_simp <;> with_reducible rfl); simp only [List.getElem_toArray, List.getElem_cons_zero, List.getElem_cons_succ, Act.put, List.setIfInBounds_toArray, List.set_cons_zero, List.set_cons_succ])
  refine plan_make_of rfl (by rfl) (fun K hK => ?_)
  go_simp
  refine (clone_any r _ _ _ (by exact hr.keep hB.drew) hl).mono ?_
  rintro e w1 ⟨A1, c1, rfl, hc1, hr1, hN1, hb1⟩
  replace hR0 := hR0.drew.later hb1
  replace hR1 := hR1.drew.later hb1
  replace hB := below_step hB.drew hb1
  refine hK.out _ _ (boxS_of hR0) ?_
  have hN2 : ∀ a, A1 = some a → a.block ≠ w.heap.size + 1 := fun a ha => by have h1 := hN1 a ha; have h2 : W.drew.heap.size = W.heap.size := rfl; have h3 := hlt; omega
  have hN3 : ∀ a, A1 = some a → w.heap.size ≤ a.block := fun a ha => by have h1 := hN1 a ha; have h2 : W.drew.heap.size = W.heap.size := rfl; have h3 := hlt; omega
  clear hK K hb1 hN1
  iterate 1 (refine plan_read rfl (by rfl) (v := ?_) ?_ ?_; rotate_left 1; (intro W hW; (try dsimp only at hW); obtain ⟨hW0, hW1⟩ := hW; go_simp <;> with_reducible rfl); simp only [List.getElem_toArray, List.getElem_cons_zero, List.getElem_cons_succ, Act.put, List.setIfInBounds_toArray, List.set_cons_zero, List.set_cons_succ])
  refine plan_make_of rfl (by rfl) (fun K hK => ?_)
  refine hR1.wp_store 27 (.tmp 4) (.tmp 19) (by rfl) (by rfl) [.int .u32 (s.a.toNat : Int), .int .u32 (s.b.toNat : Int), .int .u32 (s.c.toNat : Int), .int .u32 (s.d.toNat : Int), .int .u32 (s.e.toNat : Int), .int .u32 (s.f.toNat : Int), .int .u32 (s.g.toNat : Int), .int .u32 (s.h.toNat : Int), .slice A1 r.length c1, .int .u64 (many : Int)] (by rfl) (by exact size_hash) (by rfl) (one_hash s A1 r.length c1 many) ?_
  simp only [List.getElem_toArray, List.getElem_cons_zero, List.getElem_cons_succ, Act.put, List.setIfInBounds_toArray, List.set_cons_zero, List.set_cons_succ]
  refine hK.out _ _ (boxS_of (hR0.setRow_other (by omega) _)) ?_
  clear hK K
  iterate 1 (refine plan_read rfl (by rfl) (v := ?_) ?_ ?_; rotate_left 1; (intro W hW; (try dsimp only at hW); obtain ⟨hW0, hW1⟩ := hW; go_simp <;> with_reducible rfl); simp only [List.getElem_toArray, List.getElem_cons_zero, List.getElem_cons_succ, Act.put, List.setIfInBounds_toArray, List.set_cons_zero, List.set_cons_succ])
  refine plan_done ?_
  go_wp2_with fail
  refine bodyPost_ret (results_row_tmp (p := 4) (u := 5) (ty := 27) (by rfl) _ _ (w.heap.size + 1) 27 _ _ (by rfl) (by exact hR1.setRow _) Tryd.underlying27 (by rfl) (by exact size_hash)) (by rfl) ?_
  exact ⟨s, A1, c1, many, rfl, rfl, rfl, hc1, hr1.setRow _ hN2, hN3, below_setRow hB (by omega) _⟩

def MoreRel (s : St) (T : List UInt8) (w : World) (l : List Value) (v u : Value) (W : World) : Prop :=
  ∃ (gs : Nat) (S : St) (A : Option Addr) (c : Nat), v = .pointer (some ⟨gs, 0, none⟩) ∧ u = .slice A (restL T).length c ∧ Hid (S = s.from T) ∧ (restL T).length ≤ c ∧ Rd vB W A (restL T) ∧ Row W gs 23 [.int .u32 (S.a.toNat : Int), .int .u32 (S.b.toNat : Int), .int .u32 (S.c.toNat : Int), .int .u32 (S.d.toNat : Int), .int .u32 (S.e.toNat : Int), .int .u32 (S.f.toNat : Int), .int .u32 (S.g.toNat : Int), .int .u32 (S.h.toNat : Int)] ∧ Row W w.heap.size 27 l ∧ Row W (w.heap.size + 1) 27 zeroL ∧ Below w.heap.size w W ∧ w.heap.size + 1 < gs
theorem more_rel {s S : St} {T : List UInt8} {w W : World} {l : List Value} {gs : Nat} {A : Option Addr} {c : Nat} (HS : Hid (S = s.from T)) (hc : (restL T).length ≤ c) (hr : Rd vB W A (restL T)) (hs : Row W gs 23 [.int .u32 (S.a.toNat : Int), .int .u32 (S.b.toNat : Int), .int .u32 (S.c.toNat : Int), .int .u32 (S.d.toNat : Int), .int .u32 (S.e.toNat : Int), .int .u32 (S.f.toNat : Int), .int .u32 (S.g.toNat : Int), .int .u32 (S.h.toNat : Int)]) (h0 : Row W w.heap.size 27 l) (h1 : Row W (w.heap.size + 1) 27 zeroL) (hB : Below w.heap.size w W) (hg : w.heap.size + 1 < gs) :
    MoreRel s T w l (.pointer (some ⟨gs, 0, none⟩)) (.slice A (restL T).length c) W := ⟨gs, S, A, c, rfl, rfl, HS, hc, hr, hs, h0, h1, hB, hg⟩
def moreS (g gs : Nat) (l m : List Value) (W : World) : Prop := W.cell? ⟨g, 9, none⟩ = l[9]? ∧ W.rangeAt gs 0 m

set_option maxRecDepth 100000 in
set_option maxHeartbeats 2000000 in
theorem more_any (s : St) (r b T : List UInt8) (A B : Option Addr) (c d many : Nat) (w : World) (HT : Hid (T = r ++ b)) (hr : Rd vB w A r) (hb : Rd vB w B b) (hn : r.length < 64) (hl : T.length ≤ 70368744177664) (hbl : b.length ≤ 70368744177664) (hm : many < 18446744073709551616) (HK : Hid (KTab w)) :
    Calls Tryd.prog 13 #[.agg #[.int .u32 (s.a.toNat : Int), .int .u32 (s.b.toNat : Int), .int .u32 (s.c.toNat : Int), .int .u32 (s.d.toNat : Int), .int .u32 (s.e.toNat : Int), .int .u32 (s.f.toNat : Int), .int .u32 (s.g.toNat : Int), .int .u32 (s.h.toNat : Int), .slice A r.length c, .int .u64 (many : Int)], .slice B b.length d] w (RetH w (s.from T) (restL T) ((many + b.length) % 18446744073709551616) 0) := by
  go_enter Tryd.func13, Tryd.ntmps13
  go_upto_region 1 with fail
  refine at_world (Q := Code.wp _ _ _ _) (fun W => Row W w.heap.size 27 [.int .u32 (s.a.toNat : Int), .int .u32 (s.b.toNat : Int), .int .u32 (s.c.toNat : Int), .int .u32 (s.d.toNat : Int), .int .u32 (s.e.toNat : Int), .int .u32 (s.f.toNat : Int), .int .u32 (s.g.toNat : Int), .int .u32 (s.h.toNat : Int), .slice A r.length c, .int .u64 (many : Int)] ∧ Row W (w.heap.size + 1) 27 zeroL ∧ Below w.heap.size w W)
    ⟨(Row.new w _ _ _ rfl).alloc _, Row.new_at _ _ (by simp) _ _ _ rfl, below_new (below_new (Below.refl _ _) _) _⟩ ?_
  rintro W ⟨hR0, hR1, hB⟩
  have hc8 : W.cell? ⟨w.heap.size, 8, none⟩ = some (.slice A r.length c) := hR0.cell rfl
  go_upto_region 3 with fail
  clear hc8
  go_cut [6, 7] (fun v u wx => MoreRel s T w [.int .u32 (s.a.toNat : Int), .int .u32 (s.b.toNat : Int), .int .u32 (s.c.toNat : Int), .int .u32 (s.d.toNat : Int), .int .u32 (s.e.toNat : Int), .int .u32 (s.f.toNat : Int), .int .u32 (s.g.toNat : Int), .int .u32 (s.h.toNat : Int), .slice A r.length c, .int .u64 (many : Int)] v u wx)
  case first =>
    refine wp_region_plan_of (boxS w.heap.size [.int .u32 (s.a.toNat : Int), .int .u32 (s.b.toNat : Int), .int .u32 (s.c.toNat : Int), .int .u32 (s.d.toNat : Int), .int .u32 (s.e.toNat : Int), .int .u32 (s.f.toNat : Int), .int .u32 (s.g.toNat : Int), .int .u32 (s.h.toNat : Int), .slice A r.length c, .int .u64 (many : Int)]) (.step 0 false (.step 1 false (.step 2 false (.step 3 false (.step 4 false (.fork 5 (.fork 6 (.fork 7 (.step 8 false (.step 9 false (.step 10 false (.step 11 true (.step 12 true (.step 13 false (.nil))))))) 11 (.step 7 true (.step 8 false (.step 9 false (.step 10 false (.step 12 true (.step 13 false (.nil)))))))) 11 (.step 6 true (.step 7 true (.step 8 false (.step 9 false (.step 10 false (.step 12 true (.step 13 false (.nil))))))))) 11 (.step 5 true (.step 6 true (.step 7 true (.step 8 false (.step 9 false (.step 10 false (.step 12 true (.step 13 false (.nil))))))))))))))) (boxS_of hR0.drew) (by kernel_rfl) (by kernel_rfl) (by rfl) (by kernel_rfl) ?_
    refine at_world (Q := wpPlan _ _ _ _ _ _) (fun W => Row W w.heap.size 27 [.int .u32 (s.a.toNat : Int), .int .u32 (s.b.toNat : Int), .int .u32 (s.c.toNat : Int), .int .u32 (s.d.toNat : Int), .int .u32 (s.e.toNat : Int), .int .u32 (s.f.toNat : Int), .int .u32 (s.g.toNat : Int), .int .u32 (s.h.toNat : Int), .slice A r.length c, .int .u64 (many : Int)] ∧ Row W (w.heap.size + 1) 27 zeroL ∧ Below w.heap.size w W) ⟨hR0.drew, hR1.drew, hB.drew⟩ ?_
    clear hR0 hR1 hB
    rintro W0 ⟨hR0, hR1, hB⟩
    iterate 1 (refine plan_read rfl (by rfl) (v := ?_) ?_ ?_; rotate_left 1; (intro W hW; (try dsimp only at hW); obtain ⟨hW0, hW1⟩ := hW; go_simp <;> with_reducible rfl); simp only [List.getElem_toArray, List.getElem_cons_zero, List.getElem_cons_succ, Act.put, List.setIfInBounds_toArray, List.set_cons_zero, List.set_cons_succ])
    refine plan_load rfl (by rfl) 23 (.tmp 21) (by rfl) w.heap.size 0 (by rfl) [.int .u32 (s.a.toNat : Int), .int .u32 (s.b.toNat : Int), .int .u32 (s.c.toNat : Int), .int .u32 (s.d.toNat : Int), .int .u32 (s.e.toNat : Int), .int .u32 (s.f.toNat : Int), .int .u32 (s.g.toNat : Int), .int .u32 (s.h.toNat : Int)] _ (fun W hW => hW.2.2) Tryd.underlying23 rfl (by exact size_st) ?_
    simp only [List.getElem_toArray, List.getElem_cons_zero, List.getElem_cons_succ, Act.put, List.setIfInBounds_toArray, List.set_cons_zero, List.set_cons_succ]
    iterate 3 (refine plan_read rfl (by rfl) (v := ?_) ?_ ?_; rotate_left 1; (intro W hW; (try dsimp only at hW); obtain ⟨hW0, hW1⟩ := hW; go_simp <;> with_reducible rfl); simp only [List.getElem_toArray, List.getElem_cons_zero, List.getElem_cons_succ, Act.put, List.setIfInBounds_toArray, List.set_cons_zero, List.set_cons_succ])
    refine plan_fork rfl rfl (by rfl) (by rfl) (fun K hK => ?_) (fun K hK => ?_)
    · go_simp
      refine hK.out _ _ (boxS_of (hR0.alloc _)) ?_
      clear hK K
      refine at_world (Q := wpPlan _ _ _ _ _ _) (fun W => Row W w.heap.size 27 [.int .u32 (s.a.toNat : Int), .int .u32 (s.b.toNat : Int), .int .u32 (s.c.toNat : Int), .int .u32 (s.d.toNat : Int), .int .u32 (s.e.toNat : Int), .int .u32 (s.f.toNat : Int), .int .u32 (s.g.toNat : Int), .int .u32 (s.h.toNat : Int), .slice A r.length c, .int .u64 (many : Int)] ∧ Row W (w.heap.size + 1) 27 zeroL ∧ Below w.heap.size w W ∧ Rd vPart W (some ⟨W0.heap.size, 0, none⟩) [⟨A, c, r⟩, ⟨B, d, b⟩]) ⟨hR0.alloc _, hR1.alloc _, below_new hB _, Rd.new W0 _ _ _ rfl⟩ ?_
      clear hR0 hR1 hB
      rintro W1 ⟨hR0, hR1, hB, hP⟩
      refine plan_fork rfl rfl (by rfl) (by rfl) (fun K hK => ?_) (fun K hK => ?_)
      · go_simp
        refine (concat_two r b T A B c d _ _ _ HT hP (hr.keep hB) (hb.keep hB) hl).mono ?_
        rintro e W2 ⟨At, ct, rfl, hct, hT, hN, hb1⟩
        refine hK.out _ _ (boxS_of (hR0.later hb1)) ?_
        clear hK K
        replace hR0 := hR0.later hb1
        replace hR1 := hR1.later hb1
        replace hB := below_step hB hb1
        clear hb1 hN hP
        refine plan_fork rfl rfl (by rfl) (by rfl) (fun K hK => ?_) (fun K hK => ?_)
        · go_simp
          refine (wholeBlocks_any s T _ _ _ hT hct (by omega) (Lib.hid (HK.out.keep hB))).mono ?_
          rintro e W3 ⟨S, A2, c2, HS, rfl, hc2, hall, hb1⟩
          refine hK.out _ _ (boxS_of (hR0.later hb1)) ?_
          clear hK K
          replace hR0 := hR0.later hb1
          replace hR1 := hR1.later hb1
          replace hB := below_step hB hb1
          replace hT := hT.keep hb1
          have HA := Lib.hid hall
          clear hb1 hall
          iterate 3 (refine plan_read rfl (by rfl) (v := ?_) ?_ ?_; rotate_left 1; (intro W hW; (try dsimp only at hW); obtain ⟨hW0, hW1⟩ := hW; go_simp <;> with_reducible rfl); simp only [List.getElem_toArray, List.getElem_cons_zero, List.getElem_cons_succ, Act.put, List.setIfInBounds_toArray, List.set_cons_zero, List.set_cons_succ])
          refine plan_make_of rfl (by rfl) (fun K hK => ?_)
          go_simp
          refine hK.out _ _ (boxS_of (hR0.alloc _)) ?_
          clear hK K
          refine at_world (Q := wpPlan _ _ _ _ _ _) (fun W => Row W w.heap.size 27 [.int .u32 (s.a.toNat : Int), .int .u32 (s.b.toNat : Int), .int .u32 (s.c.toNat : Int), .int .u32 (s.d.toNat : Int), .int .u32 (s.e.toNat : Int), .int .u32 (s.f.toNat : Int), .int .u32 (s.g.toNat : Int), .int .u32 (s.h.toNat : Int), .slice A r.length c, .int .u64 (many : Int)] ∧ Row W (w.heap.size + 1) 27 zeroL ∧ Below w.heap.size w W ∧ Row W W3.heap.size 23 (List.replicate 8 (.int .u32 0)) ∧ Rd vB W At T ∧ Below W3.heap.size W3 W) ⟨hR0.alloc _, hR1.alloc _, below_new hB _, Row.new W3 _ _ _ rfl, hT.keep (below_new (Below.refl _ _) _), below_new (Below.refl _ _) _⟩ ?_
          have hgs : w.heap.size + 1 < W3.heap.size := hR1.lt
          have HT0 := Lib.hid hT
          clear hR0 hR1 hB hT
          rintro W4 ⟨hR0, hR1, hB, hRs, hT, hBk⟩
          refine plan_make_of rfl (by rfl) (fun K hK => ?_)
          refine hRs.wp_store 23 (.tmp 6) (.tmp 29) (by rfl) (by rfl) [.int .u32 (S.a.toNat : Int), .int .u32 (S.b.toNat : Int), .int .u32 (S.c.toNat : Int), .int .u32 (S.d.toNat : Int), .int .u32 (S.e.toNat : Int), .int .u32 (S.f.toNat : Int), .int .u32 (S.g.toNat : Int), .int .u32 (S.h.toNat : Int)] (by rfl) (by exact size_st) (by simp) (by exact one_st _ _ _ _ _ _ _ _) ?_
          simp only [List.getElem_toArray, List.getElem_cons_zero, List.getElem_cons_succ, Act.put, List.setIfInBounds_toArray, List.set_cons_zero, List.set_cons_succ]
          refine hK.out _ _ (boxS_of (hR0.setRow_other (by omega) _)) ?_
          clear hK K
          iterate 1 (refine plan_read rfl (by rfl) (v := ?_) ?_ ?_; rotate_left 1; (intro W hW; (try dsimp only at hW); obtain ⟨hW0, hW1⟩ := hW; go_simp <;> with_reducible rfl); simp only [List.getElem_toArray, List.getElem_cons_zero, List.getElem_cons_succ, Act.put, List.setIfInBounds_toArray, List.set_cons_zero, List.set_cons_succ])
          refine plan_done ?_
          have HR : Hid (MoreRel s T w [.int .u32 (s.a.toNat : Int), .int .u32 (s.b.toNat : Int), .int .u32 (s.c.toNat : Int), .int .u32 (s.d.toNat : Int), .int .u32 (s.e.toNat : Int), .int .u32 (s.f.toNat : Int), .int .u32 (s.g.toNat : Int), .int .u32 (s.h.toNat : Int), .slice A r.length c, .int .u64 (many : Int)] (.pointer (some ⟨W3.heap.size, 0, none⟩)) (.slice A2 (restL T).length c2) (W4.setRow W3.heap.size [.int .u32 (S.a.toNat : Int), .int .u32 (S.b.toNat : Int), .int .u32 (S.c.toNat : Int), .int .u32 (S.d.toNat : Int), .int .u32 (S.e.toNat : Int), .int .u32 (S.f.toNat : Int), .int .u32 (S.g.toNat : Int), .int .u32 (S.h.toNat : Int)].toArray)) := more_rel HS hc2 (HA.out _ (HT0.out.keep (below_setRow hBk (Nat.le_refl _) _))) (hRs.setRow _) (hR0.setRow_other (by omega) _) (hR1.setRow_other (by omega) _) (below_setRow hB (by omega) _) hgs
          clear HA hT hRs hR0 hR1 hB
          go_wp2_with fail
          go_meet
          case rel => exact HR.out
        · go_simp
          refine hK.out _ _ (boxS_of (hR0.alloc _)) ?_
          clear hK K
          refine at_world (Q := wpPlan _ _ _ _ _ _) (fun W => Row W w.heap.size 27 [.int .u32 (s.a.toNat : Int), .int .u32 (s.b.toNat : Int), .int .u32 (s.c.toNat : Int), .int .u32 (s.d.toNat : Int), .int .u32 (s.e.toNat : Int), .int .u32 (s.f.toNat : Int), .int .u32 (s.g.toNat : Int), .int .u32 (s.h.toNat : Int), .slice A r.length c, .int .u64 (many : Int)] ∧ Row W (w.heap.size + 1) 27 zeroL ∧ Below w.heap.size w W ∧ Row W W2.heap.size 23 (List.replicate 8 (.int .u32 0)) ∧ Rd vB W At T ∧ Below W2.heap.size W2 W) ⟨hR0.alloc _, hR1.alloc _, below_new hB _, Row.new W2 _ _ _ rfl, hT.keep (below_new (Below.refl _ _) _), below_new (Below.refl _ _) _⟩ ?_
          have hgs : w.heap.size + 1 < W2.heap.size := hR1.lt
          have HT0 := Lib.hid hT
          clear hR0 hR1 hB hT
          rintro W3 ⟨hR0, hR1, hB, hRs, hT, hBk⟩
          refine plan_make_of rfl (by rfl) (fun K hK => ?_)
          go_simp
          refine (wholeBlocks_any s T _ _ _ hT hct (by omega) (Lib.hid (HK.out.keep hB))).mono ?_
          rintro e W4 ⟨S, A2, c2, HS, rfl, hc2, hall, hb1⟩
          refine hK.out _ _ (boxS_of (hR0.later hb1)) ?_
          clear hK K
          replace hR0 := hR0.later hb1
          replace hR1 := hR1.later hb1
          replace hB := below_step hB hb1
          replace hRs := hRs.later hb1
          replace hT := hT.keep hb1
          replace hBk := below_step hBk hb1
          have HA := Lib.hid hall
          clear hb1 hall
          iterate 3 (refine plan_read rfl (by rfl) (v := ?_) ?_ ?_; rotate_left 1; (intro W hW; (try dsimp only at hW); obtain ⟨hW0, hW1⟩ := hW; go_simp <;> with_reducible rfl); simp only [List.getElem_toArray, List.getElem_cons_zero, List.getElem_cons_succ, Act.put, List.setIfInBounds_toArray, List.set_cons_zero, List.set_cons_succ])
          refine plan_make_of rfl (by rfl) (fun K hK => ?_)
          refine hRs.wp_store 23 (.tmp 6) (.tmp 29) (by rfl) (by rfl) [.int .u32 (S.a.toNat : Int), .int .u32 (S.b.toNat : Int), .int .u32 (S.c.toNat : Int), .int .u32 (S.d.toNat : Int), .int .u32 (S.e.toNat : Int), .int .u32 (S.f.toNat : Int), .int .u32 (S.g.toNat : Int), .int .u32 (S.h.toNat : Int)] (by rfl) (by exact size_st) (by simp) (by exact one_st _ _ _ _ _ _ _ _) ?_
          simp only [List.getElem_toArray, List.getElem_cons_zero, List.getElem_cons_succ, Act.put, List.setIfInBounds_toArray, List.set_cons_zero, List.set_cons_succ]
          refine hK.out _ _ (boxS_of (hR0.setRow_other (by omega) _)) ?_
          clear hK K
          iterate 1 (refine plan_read rfl (by rfl) (v := ?_) ?_ ?_; rotate_left 1; (intro W hW; (try dsimp only at hW); obtain ⟨hW0, hW1⟩ := hW; go_simp <;> with_reducible rfl); simp only [List.getElem_toArray, List.getElem_cons_zero, List.getElem_cons_succ, Act.put, List.setIfInBounds_toArray, List.set_cons_zero, List.set_cons_succ])
          refine plan_done ?_
          have HR : Hid (MoreRel s T w [.int .u32 (s.a.toNat : Int), .int .u32 (s.b.toNat : Int), .int .u32 (s.c.toNat : Int), .int .u32 (s.d.toNat : Int), .int .u32 (s.e.toNat : Int), .int .u32 (s.f.toNat : Int), .int .u32 (s.g.toNat : Int), .int .u32 (s.h.toNat : Int), .slice A r.length c, .int .u64 (many : Int)] (.pointer (some ⟨W2.heap.size, 0, none⟩)) (.slice A2 (restL T).length c2) (W4.setRow W2.heap.size [.int .u32 (S.a.toNat : Int), .int .u32 (S.b.toNat : Int), .int .u32 (S.c.toNat : Int), .int .u32 (S.d.toNat : Int), .int .u32 (S.e.toNat : Int), .int .u32 (S.f.toNat : Int), .int .u32 (S.g.toNat : Int), .int .u32 (S.h.toNat : Int)].toArray)) := more_rel HS hc2 (HA.out _ (HT0.out.keep (below_setRow hBk (Nat.le_refl _) _))) (hRs.setRow _) (hR0.setRow_other (by omega) _) (hR1.setRow_other (by omega) _) (below_setRow hB (by omega) _) hgs
          clear HA hT hRs hR0 hR1 hB
          go_wp2_with fail
          go_meet
          case rel => exact HR.out
      · go_simp
        refine hK.out _ _ (boxS_of (hR0.alloc _)) ?_
        clear hK K
        refine at_world (Q := wpPlan _ _ _ _ _ _) (fun W => Row W w.heap.size 27 [.int .u32 (s.a.toNat : Int), .int .u32 (s.b.toNat : Int), .int .u32 (s.c.toNat : Int), .int .u32 (s.d.toNat : Int), .int .u32 (s.e.toNat : Int), .int .u32 (s.f.toNat : Int), .int .u32 (s.g.toNat : Int), .int .u32 (s.h.toNat : Int), .slice A r.length c, .int .u64 (many : Int)] ∧ Row W (w.heap.size + 1) 27 zeroL ∧ Below w.heap.size w W ∧ Rd vPart W (some ⟨W0.heap.size, 0, none⟩) [⟨A, c, r⟩, ⟨B, d, b⟩] ∧ Row W W1.heap.size 23 (List.replicate 8 (.int .u32 0))) ⟨hR0.alloc _, hR1.alloc _, below_new hB _, hP.keep (below_new (Below.refl _ _) _), Row.new W1 _ _ _ rfl⟩ ?_
        have hgs : w.heap.size + 1 < W1.heap.size := hR1.lt
        clear hR0 hR1 hB hP
        rintro W2 ⟨hR0, hR1, hB, hP, hRs⟩
        refine plan_make_of rfl (by rfl) (fun K hK => ?_)
        go_simp
        refine (concat_two r b T A B c d _ _ _ HT hP (hr.keep hB) (hb.keep hB) hl).mono ?_
        rintro e W3 ⟨At, ct, rfl, hct, hT, hN, hb1⟩
        refine hK.out _ _ (boxS_of (hR0.later hb1)) ?_
        clear hK K
        have hNs : ∀ a, At = some a → a.block ≠ W1.heap.size := fun a ha => by have h1 := hN a ha; have h2 := hRs.lt; omega
        replace hR0 := hR0.later hb1
        replace hR1 := hR1.later hb1
        replace hB := below_step hB hb1
        replace hRs := hRs.later hb1
        clear hb1 hN hP
        refine plan_make_of rfl (by rfl) (fun K hK => ?_)
        go_simp
        refine (wholeBlocks_any s T _ _ _ hT hct (by omega) (Lib.hid (HK.out.keep hB))).mono ?_
        rintro e W4 ⟨S, A2, c2, HS, rfl, hc2, hall, hb1⟩
        refine hK.out _ _ (boxS_of (hR0.later hb1)) ?_
        clear hK K
        replace hR0 := hR0.later hb1
        replace hR1 := hR1.later hb1
        replace hB := below_step hB hb1
        replace hRs := hRs.later hb1
        replace hT := hT.keep hb1
        have HA := Lib.hid hall
        clear hb1 hall
        iterate 3 (refine plan_read rfl (by rfl) (v := ?_) ?_ ?_; rotate_left 1; (intro W hW; (try dsimp only at hW); obtain ⟨hW0, hW1⟩ := hW; go_simp <;> with_reducible rfl); simp only [List.getElem_toArray, List.getElem_cons_zero, List.getElem_cons_succ, Act.put, List.setIfInBounds_toArray, List.set_cons_zero, List.set_cons_succ])
        refine plan_make_of rfl (by rfl) (fun K hK => ?_)
        refine hRs.wp_store 23 (.tmp 6) (.tmp 29) (by rfl) (by rfl) [.int .u32 (S.a.toNat : Int), .int .u32 (S.b.toNat : Int), .int .u32 (S.c.toNat : Int), .int .u32 (S.d.toNat : Int), .int .u32 (S.e.toNat : Int), .int .u32 (S.f.toNat : Int), .int .u32 (S.g.toNat : Int), .int .u32 (S.h.toNat : Int)] (by rfl) (by exact size_st) (by simp) (by exact one_st _ _ _ _ _ _ _ _) ?_
        simp only [List.getElem_toArray, List.getElem_cons_zero, List.getElem_cons_succ, Act.put, List.setIfInBounds_toArray, List.set_cons_zero, List.set_cons_succ]
        refine hK.out _ _ (boxS_of (hR0.setRow_other (by omega) _)) ?_
        clear hK K
        iterate 1 (refine plan_read rfl (by rfl) (v := ?_) ?_ ?_; rotate_left 1; (intro W hW; (try dsimp only at hW); obtain ⟨hW0, hW1⟩ := hW; go_simp <;> with_reducible rfl); simp only [List.getElem_toArray, List.getElem_cons_zero, List.getElem_cons_succ, Act.put, List.setIfInBounds_toArray, List.set_cons_zero, List.set_cons_succ])
        refine plan_done ?_
        have HR : Hid (MoreRel s T w [.int .u32 (s.a.toNat : Int), .int .u32 (s.b.toNat : Int), .int .u32 (s.c.toNat : Int), .int .u32 (s.d.toNat : Int), .int .u32 (s.e.toNat : Int), .int .u32 (s.f.toNat : Int), .int .u32 (s.g.toNat : Int), .int .u32 (s.h.toNat : Int), .slice A r.length c, .int .u64 (many : Int)] (.pointer (some ⟨W1.heap.size, 0, none⟩)) (.slice A2 (restL T).length c2) (W4.setRow W1.heap.size [.int .u32 (S.a.toNat : Int), .int .u32 (S.b.toNat : Int), .int .u32 (S.c.toNat : Int), .int .u32 (S.d.toNat : Int), .int .u32 (S.e.toNat : Int), .int .u32 (S.f.toNat : Int), .int .u32 (S.g.toNat : Int), .int .u32 (S.h.toNat : Int)].toArray)) := more_rel HS hc2 (HA.out _ (hT.setRow _ hNs)) (hRs.setRow _) (hR0.setRow_other (by omega) _) (hR1.setRow_other (by omega) _) (below_setRow hB (by omega) _) hgs
        clear HA hT hRs hR0 hR1 hB
        go_wp2_with fail
        go_meet
        case rel => exact HR.out
    · go_simp
      refine hK.out _ _ (boxS_of (hR0.alloc _)) ?_
      clear hK K
      refine at_world (Q := wpPlan _ _ _ _ _ _) (fun W => Row W w.heap.size 27 [.int .u32 (s.a.toNat : Int), .int .u32 (s.b.toNat : Int), .int .u32 (s.c.toNat : Int), .int .u32 (s.d.toNat : Int), .int .u32 (s.e.toNat : Int), .int .u32 (s.f.toNat : Int), .int .u32 (s.g.toNat : Int), .int .u32 (s.h.toNat : Int), .slice A r.length c, .int .u64 (many : Int)] ∧ Row W (w.heap.size + 1) 27 zeroL ∧ Below w.heap.size w W ∧ Row W W0.heap.size 23 (List.replicate 8 (.int .u32 0))) ⟨hR0.alloc _, hR1.alloc _, below_new hB _, Row.new W0 _ _ _ rfl⟩ ?_
      have hgs : w.heap.size + 1 < W0.heap.size := hR1.lt
      clear hR0 hR1 hB
      rintro W1 ⟨hR0, hR1, hB, hRs⟩
      refine plan_make_of rfl (by rfl) (fun K hK => ?_)
      go_simp
      refine hK.out _ _ (boxS_of (hR0.alloc _)) ?_
      clear hK K
      refine at_world (Q := wpPlan _ _ _ _ _ _) (fun W => Row W w.heap.size 27 [.int .u32 (s.a.toNat : Int), .int .u32 (s.b.toNat : Int), .int .u32 (s.c.toNat : Int), .int .u32 (s.d.toNat : Int), .int .u32 (s.e.toNat : Int), .int .u32 (s.f.toNat : Int), .int .u32 (s.g.toNat : Int), .int .u32 (s.h.toNat : Int), .slice A r.length c, .int .u64 (many : Int)] ∧ Row W (w.heap.size + 1) 27 zeroL ∧ Below w.heap.size w W ∧ Rd vPart W (some ⟨W1.heap.size, 0, none⟩) [⟨A, c, r⟩, ⟨B, d, b⟩] ∧ Row W W0.heap.size 23 (List.replicate 8 (.int .u32 0))) ⟨hR0.alloc _, hR1.alloc _, below_new hB _, Rd.new W1 _ _ _ rfl, hRs.alloc _⟩ ?_
      clear hR0 hR1 hB hRs
      rintro W2 ⟨hR0, hR1, hB, hP, hRs⟩
      refine plan_make_of rfl (by rfl) (fun K hK => ?_)
      go_simp
      refine (concat_two r b T A B c d _ _ _ HT hP (hr.keep hB) (hb.keep hB) hl).mono ?_
      rintro e W3 ⟨At, ct, rfl, hct, hT, hN, hb1⟩
      refine hK.out _ _ (boxS_of (hR0.later hb1)) ?_
      clear hK K
      have hNs : ∀ a, At = some a → a.block ≠ W0.heap.size := fun a ha => by have h1 := hN a ha; have h2 := hRs.lt; omega
      replace hR0 := hR0.later hb1
      replace hR1 := hR1.later hb1
      replace hB := below_step hB hb1
      replace hRs := hRs.later hb1
      clear hb1 hN hP
      refine plan_make_of rfl (by rfl) (fun K hK => ?_)
      go_simp
      refine (wholeBlocks_any s T _ _ _ hT hct (by omega) (Lib.hid (HK.out.keep hB))).mono ?_
      rintro e W4 ⟨S, A2, c2, HS, rfl, hc2, hall, hb1⟩
      refine hK.out _ _ (boxS_of (hR0.later hb1)) ?_
      clear hK K
      replace hR0 := hR0.later hb1
      replace hR1 := hR1.later hb1
      replace hB := below_step hB hb1
      replace hRs := hRs.later hb1
      replace hT := hT.keep hb1
      have HA := Lib.hid hall
      clear hb1 hall
      iterate 3 (refine plan_read rfl (by rfl) (v := ?_) ?_ ?_; rotate_left 1; (intro W hW; (try dsimp only at hW); obtain ⟨hW0, hW1⟩ := hW; go_simp <;> with_reducible rfl); simp only [List.getElem_toArray, List.getElem_cons_zero, List.getElem_cons_succ, Act.put, List.setIfInBounds_toArray, List.set_cons_zero, List.set_cons_succ])
      refine plan_make_of rfl (by rfl) (fun K hK => ?_)
      refine hRs.wp_store 23 (.tmp 6) (.tmp 29) (by rfl) (by rfl) [.int .u32 (S.a.toNat : Int), .int .u32 (S.b.toNat : Int), .int .u32 (S.c.toNat : Int), .int .u32 (S.d.toNat : Int), .int .u32 (S.e.toNat : Int), .int .u32 (S.f.toNat : Int), .int .u32 (S.g.toNat : Int), .int .u32 (S.h.toNat : Int)] (by rfl) (by exact size_st) (by simp) (by exact one_st _ _ _ _ _ _ _ _) ?_
      simp only [List.getElem_toArray, List.getElem_cons_zero, List.getElem_cons_succ, Act.put, List.setIfInBounds_toArray, List.set_cons_zero, List.set_cons_succ]
      refine hK.out _ _ (boxS_of (hR0.setRow_other (by omega) _)) ?_
      clear hK K
      iterate 1 (refine plan_read rfl (by rfl) (v := ?_) ?_ ?_; rotate_left 1; (intro W hW; (try dsimp only at hW); obtain ⟨hW0, hW1⟩ := hW; go_simp <;> with_reducible rfl); simp only [List.getElem_toArray, List.getElem_cons_zero, List.getElem_cons_succ, Act.put, List.setIfInBounds_toArray, List.set_cons_zero, List.set_cons_succ])
      refine plan_done ?_
      have HR : Hid (MoreRel s T w [.int .u32 (s.a.toNat : Int), .int .u32 (s.b.toNat : Int), .int .u32 (s.c.toNat : Int), .int .u32 (s.d.toNat : Int), .int .u32 (s.e.toNat : Int), .int .u32 (s.f.toNat : Int), .int .u32 (s.g.toNat : Int), .int .u32 (s.h.toNat : Int), .slice A r.length c, .int .u64 (many : Int)] (.pointer (some ⟨W0.heap.size, 0, none⟩)) (.slice A2 (restL T).length c2) (W4.setRow W0.heap.size [.int .u32 (S.a.toNat : Int), .int .u32 (S.b.toNat : Int), .int .u32 (S.c.toNat : Int), .int .u32 (S.d.toNat : Int), .int .u32 (S.e.toNat : Int), .int .u32 (S.f.toNat : Int), .int .u32 (S.g.toNat : Int), .int .u32 (S.h.toNat : Int)].toArray)) := more_rel HS hc2 (HA.out _ (hT.setRow _ hNs)) (hRs.setRow _) (hR0.setRow_other (by omega) _) (hR1.setRow_other (by omega) _) (below_setRow hB (by omega) _) hgs
      clear HA hT hRs hR0 hR1 hB
      go_wp2_with fail
      go_meet
      case rel => exact HR.out
  case rest =>
    clear hR0 hR1 hB
    obtain ⟨gs, S, A2, c2, rfl, rfl, HS, hc2, hr2, hRs, hR0, hR1, hB, hgs⟩ := hcut
    obtain ⟨m, hm0⟩ : ∃ m, m = (many + b.length) % 18446744073709551616 := ⟨_, rfl⟩
    have hm1 : IntKind.u64.wrap ((many : Int) + (b.length : Int)) = (m : Int) := by rw [IntKind.wrap_u64, hm0]; omega
    have hm2 : ((many : Int) + (b.length : Int)) % 18446744073709551616 = (m : Int) := by rw [hm0]; omega
    have hm3 : IntKind.u64.wrap (b.length : Int) = (b.length : Int) := by rw [IntKind.wrap_u64]; omega
    have HM := Lib.hid hm0
    have h64 : (restL T).length < 64 := by rw [restL_length]; omega
    obtain ⟨R, hR⟩ : ∃ R, R = restL T := ⟨_, rfl⟩
    have HRT := Lib.hid hR
    rw [← hR] at hc2 hr2 h64 ⊢
    clear hR
    clear hm0
    go_wp2_with fail
    refine wp_region_plan_of (moreS w.heap.size gs [.int .u32 (s.a.toNat : Int), .int .u32 (s.b.toNat : Int), .int .u32 (s.c.toNat : Int), .int .u32 (s.d.toNat : Int), .int .u32 (s.e.toNat : Int), .int .u32 (s.f.toNat : Int), .int .u32 (s.g.toNat : Int), .int .u32 (s.h.toNat : Int), .slice A r.length c, .int .u64 (many : Int)] [.int .u32 (S.a.toNat : Int), .int .u32 (S.b.toNat : Int), .int .u32 (S.c.toNat : Int), .int .u32 (S.d.toNat : Int), .int .u32 (S.e.toNat : Int), .int .u32 (S.f.toNat : Int), .int .u32 (S.g.toNat : Int), .int .u32 (S.h.toNat : Int)]) (.step 0 false (.step 1 false (.step 3 false (.step 4 false (.step 5 false (.step 6 false (.step 7 false (.step 8 false (.step 2 true (.step 9 false (.step 10 true (.step 11 false (.nil))))))))))))) ⟨hR0.drew.cell? 9, hRs.drew.range⟩ (by kernel_rfl) (by kernel_rfl) (by rfl) (by kernel_rfl) ?_
    refine plan_load rfl (by rfl) 23 (.tmp 6) (by rfl) gs 0 (by rfl) [.int .u32 (S.a.toNat : Int), .int .u32 (S.b.toNat : Int), .int .u32 (S.c.toNat : Int), .int .u32 (S.d.toNat : Int), .int .u32 (S.e.toNat : Int), .int .u32 (S.f.toNat : Int), .int .u32 (S.g.toNat : Int), .int .u32 (S.h.toNat : Int)] _ (fun W hW => hW.2) Tryd.underlying23 rfl (by exact size_st) ?_
    simp only [List.getElem_toArray, List.getElem_cons_zero, List.getElem_cons_succ, Act.put, List.setIfInBounds_toArray, List.set_cons_zero, List.set_cons_succ]
    iterate 7 (refine plan_read rfl (by rfl) (v := ?_) ?_ ?_; rotate_left 1; (intro W hW; (try dsimp only at hW); obtain ⟨hW0, hW1⟩ := hW; go_simp <;> with_reducible rfl); simp only [List.getElem_toArray, List.getElem_cons_zero, List.getElem_cons_succ, Act.put, List.setIfInBounds_toArray, List.set_cons_zero, List.set_cons_succ])
    clear hm1 hm2 hm3
    refine plan_make_of rfl (by rfl) (fun K hK => ?_)
    go_simp
    refine (clone_any R _ _ _ (by exact hr2) (by omega)).mono ?_
    rintro e w1 ⟨A1, c1, rfl, hc1, hr1, hN1, hb1⟩
    have hN2 : ∀ a, A1 = some a → a.block ≠ w.heap.size + 1 := fun a ha => by have h1 := hN1 a ha; have h2 : wc.drew.heap.size = wc.heap.size := rfl; have h3 := hR1.lt; omega
    have hN3 : ∀ a, A1 = some a → w.heap.size ≤ a.block := fun a ha => by have h1 := hN1 a ha; have h2 : wc.drew.heap.size = wc.heap.size := rfl; have h3 := hR1.lt; omega
    replace hR0 := hR0.drew.later hb1
    replace hR1 := hR1.drew.later hb1
    replace hRs := hRs.drew.later hb1
    replace hB := below_step hB.drew hb1
    refine hK.out _ _ ⟨hR0.cell? 9, hRs.range⟩ ?_
    clear hK K hb1 hN1
    iterate 1 (refine plan_read rfl (by rfl) (v := ?_) ?_ ?_; rotate_left 1; (intro W hW; (try dsimp only at hW); obtain ⟨hW0, hW1⟩ := hW; go_simp <;> with_reducible rfl); simp only [List.getElem_toArray, List.getElem_cons_zero, List.getElem_cons_succ, Act.put, List.setIfInBounds_toArray, List.set_cons_zero, List.set_cons_succ])
    refine plan_make_of rfl (by rfl) (fun K hK => ?_)
    refine hR1.wp_store 27 (.tmp 4) (.tmp 40) (by rfl) (by rfl) [.int .u32 (S.a.toNat : Int), .int .u32 (S.b.toNat : Int), .int .u32 (S.c.toNat : Int), .int .u32 (S.d.toNat : Int), .int .u32 (S.e.toNat : Int), .int .u32 (S.f.toNat : Int), .int .u32 (S.g.toNat : Int), .int .u32 (S.h.toNat : Int), .slice A1 R.length c1, .int .u64 (m : Int)] (by rfl) (by exact size_hash) (by rfl) (one_hash S A1 R.length c1 m) ?_
    simp only [List.getElem_toArray, List.getElem_cons_zero, List.getElem_cons_succ, Act.put, List.setIfInBounds_toArray, List.set_cons_zero, List.set_cons_succ]
    refine hK.out _ _ ⟨(hR0.setRow_other (by omega) _).cell? 9, (hRs.setRow_other (by omega) _).range⟩ ?_
    clear hK K
    iterate 1 (refine plan_read rfl (by rfl) (v := ?_) ?_ ?_; rotate_left 1; (intro W hW; (try dsimp only at hW); obtain ⟨hW0, hW1⟩ := hW; go_simp <;> with_reducible rfl); simp only [List.getElem_toArray, List.getElem_cons_zero, List.getElem_cons_succ, Act.put, List.setIfInBounds_toArray, List.set_cons_zero, List.set_cons_succ])
    refine plan_done ?_
    go_wp2_with fail
    refine bodyPost_ret (results_row_tmp (p := 4) (u := 5) (ty := 27) (by rfl) _ _ (w.heap.size + 1) 27 _ _ (by rfl) (by exact hR1.setRow _) Tryd.underlying27 (by rfl) (by exact size_hash)) (by rfl) ?_
    have e := HRT.out
    subst e
    exact ⟨S, A1, c1, m, HS, HM, rfl, hc1, hr1.setRow _ hN2, hN3, below_setRow hB (by omega) _⟩

end Go.Proofs.YtdokbhcoekffpaaDoor
