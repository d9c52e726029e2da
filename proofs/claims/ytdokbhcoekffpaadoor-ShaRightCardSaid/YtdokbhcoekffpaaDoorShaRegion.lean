/-
  The last region of the law ShaRight, over a frame of which eleven slots are known. No conditions but those typed.
-/
import Derived.Test.YtdokbhcoekffpaaDoorShaAlias
import Derived.Test.YtdokbhcoekffpaaDoorSees
namespace Go.Proofs.YtdokbhcoekffpaaDoor
open Go.RowKit
set_option linter.unusedSimpArgs false
set_option linter.unusedVariables false

noncomputable def ops26 : Array Oper := (Tryd.f3.body.bind (regionOf 26)).getD #[]

set_option maxRecDepth 100000 in
set_option maxHeartbeats 4000000 in
theorem region26 (s2 S5 F : St) (b r T Q X : List UInt8) (B A A5 A6 A8 A11 A12 Aq : Option Addr) (c d c5 c6 c8 c11 c12 cq many m5 : Nat) (w w5 w9 w12 : World) (a : Act) (R : Exit → Act → World → Prop)
    (hR9 : Row w12 w5.heap.size 27 [.int .u32 (S5.a.toNat : Int), .int .u32 (S5.b.toNat : Int), .int .u32 (S5.c.toNat : Int), .int .u32 (S5.d.toNat : Int), .int .u32 (S5.e.toNat : Int), .int .u32 (S5.f.toNat : Int), .int .u32 (S5.g.toNat : Int), .int .u32 (S5.h.toNat : Int), .slice A5 Q.length c5, .int .u64 (m5 : Int)]) (hR5 : Row w12 (w.heap.size + 1) 27 [.int .u32 (s2.a.toNat : Int), .int .u32 (s2.b.toNat : Int), .int .u32 (s2.c.toNat : Int), .int .u32 (s2.d.toNat : Int), .int .u32 (s2.e.toNat : Int), .int .u32 (s2.f.toNat : Int), .int .u32 (s2.g.toNat : Int), .int .u32 (s2.h.toNat : Int), .slice A r.length c, .int .u64 (many : Int)])
    (hRk : Row w12 w9.heap.size 27 (mixL F 8)) (hr6 : Rd vB w12 A6 X) (hr8 : Rd vB w12 A8 T) (hr5 : Rd vB w12 A5 Q) (hr12 : Rd vB w12 A12 X) (hrq : Rd vB w12 Aq Q) (hrk : Rd vW w12 A11 F.toL) (hc8 : T.length ≤ c8) (hTl : T.length ≤ 2064) (hbl : b.length ≤ 2000)
    (HS5 : Hid (S5 = s2.from T)) (HM5 : Hid (m5 = (many + b.length) % 18446744073709551616)) (HX : Hid (bytesL F.toL = X)) (H32 : Hid (X.length = 32))
    (hsl : ∀ W, (Instr.slice 24 (.slice A8 T.length c8) (some (.int .i64 ((T.length : Int) / 64 * 64))) none none).run Tryd.prog W = .ok (.slice Aq Q.length cq) W)
    (hs : Sees 233 a [(1, .slice B b.length d), (5, .pointer (some ⟨w.heap.size + 1, 0, none⟩)), (9, .pointer (some ⟨w5.heap.size, 0, none⟩)), (10, .int .i64 0), (11, .slice A6 32 c6), (12, .int .i64 0), (13, .slice A8 T.length c8), (15, .pointer (some ⟨w9.heap.size, 0, none⟩)), (16, .slice A11 8 c11), (18, .slice A12 32 c12), (19, .int .i64 0)])
    (hR : ∀ a W L, Sees 233 a ((6, .bool true) :: L) → Below w12.heap.size w12 W → R .normal a W) :
    (Code.region 26 ops26 true).wp Tryd.prog R a w12 := by
  conv => arg 2; arg 2; whnf
  simp only [List.append_eq, List.cons_append, List.nil_append]
  have q0 : (0 : Int) ≤ (T.length : Int) := by omega
  have q1 : IntKind.i64.wrap ((T.length : Int) / 64 * 64) = (T.length : Int) / 64 * 64 := by rw [IntKind.wrap_i64]; omega
  have q2 : (T.length : Int).tdiv 64 = (T.length : Int) / 64 := by rw [Int.tdiv_eq_ediv_of_nonneg (by omega)]
  have q3 : IntKind.i64.wrap ((T.length : Int) / 64) = (T.length : Int) / 64 := by rw [IntKind.wrap_i64]; omega
  have hs1 : ∀ W, Below w12.heap.size w12 W → (convert 24 9 (.slice A5 Q.length c5)).run Tryd.prog W = .ok (.string ⟨Q.toArray⟩) W := fun W hW => run_str W _ _ _ Tryd.underlying24 Tryd.underlying5 Tryd.underlying9 A5 Q _ c5 rfl (hr5.keep hW)
  have hs2 : ∀ W, Below w12.heap.size w12 W → (convert 24 9 (.slice Aq Q.length cq)).run Tryd.prog W = .ok (.string ⟨Q.toArray⟩) W := fun W hW => run_str W _ _ _ Tryd.underlying24 Tryd.underlying5 Tryd.underlying9 Aq Q _ cq rfl (hrq.keep hW)
  have hs3 : ∀ W, Below w12.heap.size w12 W → (convert 24 9 (.slice A6 32 c6)).run Tryd.prog W = .ok (.string ⟨X.toArray⟩) W := fun W hW => run_str W _ _ _ Tryd.underlying24 Tryd.underlying5 Tryd.underlying9 A6 X _ c6 H32.out (hr6.keep hW)
  have hs4 : ∀ W, Below w12.heap.size w12 W → (convert 24 9 (.slice A12 32 c12)).run Tryd.prog W = .ok (.string ⟨X.toArray⟩) W := fun W hW => run_str W _ _ _ Tryd.underlying24 Tryd.underlying5 Tryd.underlying9 A12 X _ c12 H32.out (hr12.keep hW)
  have hm1 : IntKind.u64.wrap ((many : Int) + (b.length : Int)) = (m5 : Int) := by rw [IntKind.wrap_u64, HM5.out]; omega
  have hm2 : ((many : Int) + (b.length : Int)) % 18446744073709551616 = (m5 : Int) := by rw [HM5.out]; omega
  have hm3 : IntKind.u64.wrap (b.length : Int) = (b.length : Int) := by rw [IntKind.wrap_u64]; omega
  have x8 : ∀ W, Below w12.heap.size w12 W → W.cell? ⟨w5.heap.size, 8, none⟩ = some (.slice A5 Q.length c5) := fun W hW => (hR9.later hW).cell rfl
  have x9 : ∀ W, Below w12.heap.size w12 W → W.cell? ⟨w5.heap.size, 9, none⟩ = some (.int .u64 (m5 : Int)) := fun W hW => (hR9.later hW).cell rfl
  have y9 : ∀ W, Below w12.heap.size w12 W → W.cell? ⟨w.heap.size + 1, 9, none⟩ = some (.int .u64 (many : Int)) := fun W hW => (hR5.later hW).cell rfl
  have z0 : ∀ W, Below w12.heap.size w12 W → W.cell? ⟨w9.heap.size, 0, none⟩ = some (.int .u32 (F.a.toNat : Int)) := fun W hW => (hRk.later hW).cell rfl
  have z7 : ∀ W, Below w12.heap.size w12 W → W.cell? ⟨w9.heap.size, 7, none⟩ = some (.int .u32 (F.h.toNat : Int)) := fun W hW => (hRk.later hW).cell rfl
  have hBase : Below w12.heap.size w12 w12.drew := (Below.refl _ _).drew
  refine wp_region_sees (n := 233) _ (.step 0 false (.step 1 false (.step 2 false (.step 3 false (.step 4 false (.step 5 false (.step 6 false (.step 7 false (.step 8 false (.step 9 false (.step 10 false (.step 11 false (.step 12 false (.step 13 false (.step 14 false (.step 16 false (.step 15 true (.step 17 true (.step 18 true (.step 19 false (.step 20 false (.step 21 false (.step 22 false (.step 23 false (.step 24 false (.step 25 false (.step 26 false (.step 27 false (.step 28 false (.step 29 false (.step 30 false (.step 31 false (.step 32 false (.step 33 false (.step 34 false (.step 35 false (.step 36 false (.step 37 false (.step 38 false (.step 39 false (.step 40 false (.step 41 false (.step 42 false (.step 43 false (.step 44 false (.step 45 false (.step 46 false (.step 47 false (.step 48 false (.step 49 false (.step 50 false (.step 51 false (.step 52 false (.step 53 false (.step 54 false (.step 55 false (.step 56 false (.step 57 false (.step 59 false (.step 60 false (.step 61 false (.step 58 true (.step 62 false (.step 63 false (.step 64 false (.step 65 false (.step 67 false (.step 68 false (.step 69 false (.step 66 true (.step 70 false (.step 71 false (.step 72 false (.step 73 false (.step 74 false (.step 75 false (.step 76 true (.step 77 false (.step 78 false (.step 79 false (.step 80 false (.nil)))))))))))))))))))))))))))))))))))))))))))))))))))))))))))))))))))))))))))))))))) hs (by kernel_rfl) (by kernel_rfl) (by rfl) (by kernel_rfl) ?_
  clear hs a
  intro a hs
  refine sees_read hs rfl rfl rfl rfl (wanted_plain rfl) (run_move_then (hs.at 3 rfl) rfl) ?_
  clear hs a; intro a hs
  (refine sees_read (v := ?_) hs rfl rfl rfl rfl (wanted_plain rfl) ?_ ?_; rotate_left 1; (intro W hW; have hW0 := below_step hBase hW; have e153 := hs.at 0 rfl; go_simp <;> with_reducible rfl); clear hs a; intro a hs)   -- 1 Op.binOp BinOp.eql 30 (Operand.tmp 153) (Operand.const (Valu
  refine sees_read hs rfl rfl rfl rfl (wanted_plain rfl) (run_move_then (hs.at 0 rfl) rfl) ?_
  clear hs a; intro a hs
  refine sees_read hs rfl rfl rfl rfl (wanted_sees hs rfl rfl rfl rfl 0 rfl) (run_move_then (hs.at 8 rfl) rfl) ?_
  clear hs a; intro a hs
  (refine sees_read (v := ?_) hs rfl rfl rfl rfl (wanted_sees hs rfl rfl rfl rfl 1 rfl) ?_ ?_; rotate_left 1; (intro W hW; have hW0 := below_step hBase hW; have e156 := hs.at 0 rfl; go_simp <;> with_reducible rfl); clear hs a; intro a hs)   -- 4 Op.binOp BinOp.eql 30 (Operand.tmp 156) (Operand.const (Valu
  refine sees_read hs rfl rfl rfl rfl (wanted_plain rfl) (run_pick_then (hs.at 2 rfl) (hs.at 0 rfl) rfl) ?_
  clear hs a; intro a hs
  refine sees_read hs rfl rfl rfl rfl (wanted_plain rfl) (run_move_then (hs.at 0 rfl) rfl) ?_
  clear hs a; intro a hs
  refine sees_read hs rfl rfl rfl rfl (wanted_sees hs rfl rfl rfl rfl 0 rfl) (run_move_then (hs.at 17 rfl) rfl) ?_
  clear hs a; intro a hs
  (refine sees_read (v := ?_) hs rfl rfl rfl rfl (wanted_sees hs rfl rfl rfl rfl 1 rfl) ?_ ?_; rotate_left 1; (intro W hW; have hW0 := below_step hBase hW; have e160 := hs.at 0 rfl; go_simp <;> with_reducible rfl); clear hs a; intro a hs)   -- 8 Op.binOp BinOp.eql 30 (Operand.tmp 160) (Operand.const (Valu
  refine sees_read hs rfl rfl rfl rfl (wanted_plain rfl) (run_pick_then (hs.at 2 rfl) (hs.at 0 rfl) rfl) ?_
  clear hs a; intro a hs
  refine sees_read hs rfl rfl rfl rfl (wanted_plain rfl) (run_move_then (hs.at 0 rfl) rfl) ?_
  clear hs a; intro a hs
  (refine sees_read (v := ?_) hs rfl rfl rfl rfl (wanted_sees hs rfl rfl rfl rfl 0 rfl) ?_ ?_; rotate_left 1; (intro W hW; have hW0 := below_step hBase hW; have e9 := hs.at 13 rfl; go_simp <;> with_reducible rfl); clear hs a; intro a hs)   -- 11 Op.fieldAddr 27 (Operand.tmp 9) 0
  refine sees_load hs rfl rfl rfl rfl (wanted_sees hs rfl rfl rfl rfl 1 rfl) 23 164 rfl w5.heap.size 0 (hs.at 0 rfl) [.int .u32 (S5.a.toNat : Int), .int .u32 (S5.b.toNat : Int), .int .u32 (S5.c.toNat : Int), .int .u32 (S5.d.toNat : Int), .int .u32 (S5.e.toNat : Int), .int .u32 (S5.f.toNat : Int), .int .u32 (S5.g.toNat : Int), .int .u32 (S5.h.toNat : Int)] _ (fun W hW => (hR9.later (below_step hBase hW)).range_part 0 _ (by rfl)) Tryd.underlying23 rfl (by exact size_st) ?_
  clear hs a; intro a hs
  (refine sees_read (v := ?_) hs rfl rfl rfl rfl (wanted_sees hs rfl rfl rfl rfl 2 rfl) ?_ ?_; rotate_left 1; (intro W hW; have hW0 := below_step hBase hW; have e5 := hs.at 14 rfl; go_simp <;> with_reducible rfl); clear hs a; intro a hs)   -- 13 Op.fieldAddr 27 (Operand.tmp 5) 0
  refine sees_load hs rfl rfl rfl rfl (wanted_sees hs rfl rfl rfl rfl 3 rfl) 23 166 rfl (w.heap.size + 1) 0 (hs.at 0 rfl) [.int .u32 (s2.a.toNat : Int), .int .u32 (s2.b.toNat : Int), .int .u32 (s2.c.toNat : Int), .int .u32 (s2.d.toNat : Int), .int .u32 (s2.e.toNat : Int), .int .u32 (s2.f.toNat : Int), .int .u32 (s2.g.toNat : Int), .int .u32 (s2.h.toNat : Int)] _ (fun W hW => (hR5.later (below_step hBase hW)).range_part 0 _ (by rfl)) Tryd.underlying23 rfl (by exact size_st) ?_
  clear hs a; intro a hs
  refine sees_read hs rfl rfl rfl rfl (wanted_sees hs rfl rfl rfl rfl 4 rfl) (run_move_then (hs.at 21 rfl) rfl) ?_
  clear hs a; intro a hs
  refine sees_make hs rfl rfl rfl rfl (wanted_sees hs rfl rfl rfl rfl 5 rfl) (fun K hK => ?_)
  have e167 := hs.at 1 rfl
  go_simp
  clear e167
  refine (words_law s2 _).mono ?_
  rintro e w13 ⟨A13, c13, rfl, hc13, hr13, hbx⟩
  refine hK.out _ _ hbx ?_
  clear hK K hs a
  replace hBase := below_step hBase hbx
  intro a hs
  refine sees_make hs rfl rfl rfl rfl (wanted_sees hs rfl rfl rfl rfl 6 rfl) (fun K hK => ?_)
  have e168 := hs.at 0 rfl; have e169 := hs.at 1 rfl
  go_simp
  clear e168 e169
  refine (from_ref s2 T _ _ _ _ _ (hr13) (hr8.keep hBase) hc13 hc8 (by omega)).mono ?_
  rintro e w14 ⟨A14, c14, rfl, hc14, hr14, hbx⟩
  rw [← HS5.out] at hc14 hr14 ⊢
  refine hK.out _ _ hbx ?_
  clear hK K hs a
  replace hBase := below_step hBase hbx
  intro a hs
  refine sees_make hs rfl rfl rfl rfl (wanted_sees hs rfl rfl rfl rfl 7 rfl) (fun K hK => ?_)
  have e165 := hs.at 5 rfl; have e170 := hs.at 0 rfl
  go_simp
  clear e165 e170
  refine (same_law S5 _ _ _ hr14).mono ?_
  rintro e w15 ⟨rfl, hbx⟩
  refine hK.out _ _ hbx ?_
  clear hK K hs a
  replace hBase := below_step hBase hbx
  intro a hs
  clear hr13 hr14 hc13 hc14
  refine sees_read hs rfl rfl rfl rfl (wanted_plain rfl) (run_pick_then (hs.at 8 rfl) (hs.at 0 rfl) rfl) ?_
  clear hs a; intro a hs
  refine sees_read hs rfl rfl rfl rfl (wanted_plain rfl) (run_move_then (hs.at 0 rfl) rfl) ?_
  clear hs a; intro a hs
  (refine sees_read (v := ?_) hs rfl rfl rfl rfl (wanted_sees hs rfl rfl rfl rfl 0 rfl) ?_ ?_; rotate_left 1; (intro W hW; have hW0 := below_step hBase hW; have e9 := hs.at 23 rfl; go_simp <;> with_reducible rfl); clear hs a; intro a hs)   -- 21 Op.fieldAddr 27 (Operand.tmp 9) 1
  (refine sees_read (v := ?_) hs rfl rfl rfl rfl (wanted_sees hs rfl rfl rfl rfl 1 rfl) ?_ ?_; rotate_left 1; (intro W hW; have hW0 := below_step hBase hW; have e174 := hs.at 0 rfl; go_simp <;> with_reducible rfl); clear hs a; intro a hs)   -- 22 Op.load 24 (Operand.tmp 174)
  (refine sees_read (v := ?_) hs rfl rfl rfl rfl (wanted_sees hs rfl rfl rfl rfl 2 rfl) ?_ ?_; rotate_left 1; (intro W hW; have hW0 := below_step hBase hW; have e175 := hs.at 0 rfl; go_simp <;> with_reducible rfl); clear hs a; intro a hs)   -- 23 Op.convert 24 9 (Operand.tmp 175)
  refine sees_read hs rfl rfl rfl rfl (wanted_sees hs rfl rfl rfl rfl 3 rfl) (run_move_then (hs.at 30 rfl) rfl) ?_
  clear hs a; intro a hs
  refine sees_read hs rfl rfl rfl rfl (wanted_sees hs rfl rfl rfl rfl 4 rfl) (run_move_then (hs.at 31 rfl) rfl) ?_
  clear hs a; intro a hs
  (refine sees_read (v := ?_) hs rfl rfl rfl rfl (wanted_sees hs rfl rfl rfl rfl 5 rfl) ?_ ?_; rotate_left 1; (intro W hW; have hW0 := below_step hBase hW; have e178 := hs.at 0 rfl; go_simp <;> with_reducible rfl); clear hs a; intro a hs)   -- 26 Op.call { callee := Callee.builtin Builtin.len, args := #[Op
  (refine sees_read (v := ?_) hs rfl rfl rfl rfl (wanted_sees hs rfl rfl rfl rfl 6 rfl) ?_ ?_; rotate_left 1; (intro W hW; have hW0 := below_step hBase hW; have e179 := hs.at 0 rfl; go_simp <;> with_reducible rfl); clear hs a; intro a hs)   -- 27 Op.binOp BinOp.quo 3 (Operand.tmp 179) (Operand.const (Value
  (refine sees_read (v := ?_) hs rfl rfl rfl rfl (wanted_sees hs rfl rfl rfl rfl 7 rfl) ?_ ?_; rotate_left 1; (intro W hW; have hW0 := below_step hBase hW; have e180 := hs.at 0 rfl; go_simp <;> with_reducible rfl); clear hs a; intro a hs)   -- 28 Op.binOp BinOp.mul 3 (Operand.tmp 180) (Operand.const (Value
  (refine sees_read (v := ?_) hs rfl rfl rfl rfl (wanted_sees hs rfl rfl rfl rfl 8 rfl) ?_ ?_; rotate_left 1; (intro W hW; have hW0 := below_step hBase hW; have e177 := hs.at 4 rfl; have e181 := hs.at 0 rfl; go_simp <;> with_reducible rfl); clear hs a; intro a hs)   -- 29 Op.slice 24 (Operand.tmp 177) (some (Operand.tmp 181)) none
  (refine sees_read (v := ?_) hs rfl rfl rfl rfl (wanted_sees hs rfl rfl rfl rfl 9 rfl) ?_ ?_; rotate_left 1; (intro W hW; have hW0 := below_step hBase hW; have e182 := hs.at 0 rfl; go_simp <;> with_reducible rfl); clear hs a; intro a hs)   -- 30 Op.convert 24 9 (Operand.tmp 182)
  (refine sees_read (v := ?_) hs rfl rfl rfl rfl (wanted_sees hs rfl rfl rfl rfl 10 rfl) ?_ ?_; rotate_left 1; (intro W hW; have hW0 := below_step hBase hW; have e176 := hs.at 7 rfl; have e183 := hs.at 0 rfl; go_simp <;> with_reducible rfl); clear hs a; intro a hs)   -- 31 Op.binOp BinOp.eql 9 (Operand.tmp 176) (Operand.tmp 183) 9
  refine sees_read hs rfl rfl rfl rfl (wanted_plain rfl) (run_pick_then (hs.at 11 rfl) (hs.at 0 rfl) rfl) ?_
  clear hs a; intro a hs
  refine sees_read hs rfl rfl rfl rfl (wanted_plain rfl) (run_move_then (hs.at 0 rfl) rfl) ?_
  clear hs a; intro a hs
  (refine sees_read (v := ?_) hs rfl rfl rfl rfl (wanted_sees hs rfl rfl rfl rfl 0 rfl) ?_ ?_; rotate_left 1; (intro W hW; have hW0 := below_step hBase hW; have e9 := hs.at 36 rfl; go_simp <;> with_reducible rfl); clear hs a; intro a hs)   -- 34 Op.fieldAddr 27 (Operand.tmp 9) 2
  (refine sees_read (v := ?_) hs rfl rfl rfl rfl (wanted_sees hs rfl rfl rfl rfl 1 rfl) ?_ ?_; rotate_left 1; (intro W hW; have hW0 := below_step hBase hW; have e187 := hs.at 0 rfl; go_simp <;> with_reducible rfl); clear hs a; intro a hs)   -- 35 Op.load 25 (Operand.tmp 187)
  (refine sees_read (v := ?_) hs rfl rfl rfl rfl (wanted_sees hs rfl rfl rfl rfl 2 rfl) ?_ ?_; rotate_left 1; (intro W hW; have hW0 := below_step hBase hW; have e5 := hs.at 37 rfl; go_simp <;> with_reducible rfl); clear hs a; intro a hs)   -- 36 Op.fieldAddr 27 (Operand.tmp 5) 2
  (refine sees_read (v := ?_) hs rfl rfl rfl rfl (wanted_sees hs rfl rfl rfl rfl 3 rfl) ?_ ?_; rotate_left 1; (intro W hW; have hW0 := below_step hBase hW; have e189 := hs.at 0 rfl; go_simp <;> with_reducible rfl); clear hs a; intro a hs)   -- 37 Op.load 25 (Operand.tmp 189)
  refine sees_read hs rfl rfl rfl rfl (wanted_sees hs rfl rfl rfl rfl 4 rfl) (run_move_then (hs.at 38 rfl) rfl) ?_
  clear hs a; intro a hs
  (refine sees_read (v := ?_) hs rfl rfl rfl rfl (wanted_sees hs rfl rfl rfl rfl 5 rfl) ?_ ?_; rotate_left 1; (intro W hW; have hW0 := below_step hBase hW; have e191 := hs.at 0 rfl; go_simp <;> with_reducible rfl); clear hs a; intro a hs)   -- 39 Op.call { callee := Callee.builtin Builtin.len, args := #[Op
  (refine sees_read (v := ?_) hs rfl rfl rfl rfl (wanted_sees hs rfl rfl rfl rfl 6 rfl) ?_ ?_; rotate_left 1; (intro W hW; have hW0 := below_step hBase hW; have e192 := hs.at 0 rfl; go_simp <;> with_reducible rfl); clear hs a; intro a hs)   -- 40 Op.convert 3 25 (Operand.tmp 192)
  (refine sees_read (v := ?_) hs rfl rfl rfl rfl (wanted_sees hs rfl rfl rfl rfl 7 rfl) ?_ ?_; rotate_left 1; (intro W hW; have hW0 := below_step hBase hW; have e190 := hs.at 3 rfl; have e193 := hs.at 0 rfl; go_simp <;> with_reducible rfl); clear hs a; intro a hs)   -- 41 Op.binOp BinOp.add 25 (Operand.tmp 190) (Operand.tmp 193) 25
  (refine sees_read (v := ?_) hs rfl rfl rfl rfl (wanted_sees hs rfl rfl rfl rfl 8 rfl) ?_ ?_; rotate_left 1; (intro W hW; have hW0 := below_step hBase hW; have e188 := hs.at 6 rfl; have e194 := hs.at 0 rfl; go_simp <;> with_reducible rfl); clear hs a; intro a hs)   -- 42 Op.binOp BinOp.eql 25 (Operand.tmp 188) (Operand.tmp 194) 25
  refine sees_read hs rfl rfl rfl rfl (wanted_plain rfl) (run_pick_then (hs.at 9 rfl) (hs.at 0 rfl) rfl) ?_
  clear hs a; intro a hs
  refine sees_read hs rfl rfl rfl rfl (wanted_plain rfl) (run_move_then (hs.at 0 rfl) rfl) ?_
  clear hs a; intro a hs
  refine sees_read hs rfl rfl rfl rfl (wanted_sees hs rfl rfl rfl rfl 0 rfl) (run_move_then (hs.at 49 rfl) rfl) ?_
  clear hs a; intro a hs
  (refine sees_read (v := ?_) hs rfl rfl rfl rfl (wanted_sees hs rfl rfl rfl rfl 1 rfl) ?_ ?_; rotate_left 1; (intro W hW; have hW0 := below_step hBase hW; have e198 := hs.at 0 rfl; go_simp <;> with_reducible rfl); clear hs a; intro a hs)   -- 46 Op.call { callee := Callee.builtin Builtin.len, args := #[Op
  (refine sees_read (v := ?_) hs rfl rfl rfl rfl (wanted_sees hs rfl rfl rfl rfl 2 rfl) ?_ ?_; rotate_left 1; (intro W hW; have hW0 := below_step hBase hW; have e199 := hs.at 0 rfl; go_simp <;> with_reducible rfl); clear hs a; intro a hs)   -- 47 Op.binOp BinOp.eql 3 (Operand.tmp 199) (Operand.const (Value
  refine sees_read hs rfl rfl rfl rfl (wanted_plain rfl) (run_pick_then (hs.at 3 rfl) (hs.at 0 rfl) rfl) ?_
  clear hs a; intro a hs
  refine sees_read hs rfl rfl rfl rfl (wanted_plain rfl) (run_move_then (hs.at 0 rfl) rfl) ?_
  clear hs a; intro a hs
  refine sees_read hs rfl rfl rfl rfl (wanted_sees hs rfl rfl rfl rfl 0 rfl) (run_move_then (hs.at 54 rfl) rfl) ?_
  clear hs a; intro a hs
  (refine sees_read (v := ?_) hs rfl rfl rfl rfl (wanted_sees hs rfl rfl rfl rfl 1 rfl) ?_ ?_; rotate_left 1; (intro W hW; have hW0 := below_step hBase hW; have e203 := hs.at 0 rfl; go_simp <;> with_reducible rfl); clear hs a; intro a hs)   -- 51 Op.convert 24 9 (Operand.tmp 203)
  refine sees_read hs rfl rfl rfl rfl (wanted_sees hs rfl rfl rfl rfl 2 rfl) (run_move_then (hs.at 61 rfl) rfl) ?_
  clear hs a; intro a hs
  (refine sees_read (v := ?_) hs rfl rfl rfl rfl (wanted_sees hs rfl rfl rfl rfl 3 rfl) ?_ ?_; rotate_left 1; (intro W hW; have hW0 := below_step hBase hW; have e205 := hs.at 0 rfl; go_simp <;> with_reducible rfl); clear hs a; intro a hs)   -- 53 Op.convert 24 9 (Operand.tmp 205)
  (refine sees_read (v := ?_) hs rfl rfl rfl rfl (wanted_sees hs rfl rfl rfl rfl 4 rfl) ?_ ?_; rotate_left 1; (intro W hW; have hW0 := below_step hBase hW; have e204 := hs.at 2 rfl; have e206 := hs.at 0 rfl; go_simp <;> with_reducible rfl); clear hs a; intro a hs)   -- 54 Op.binOp BinOp.eql 9 (Operand.tmp 204) (Operand.tmp 206) 9
  refine sees_read hs rfl rfl rfl rfl (wanted_plain rfl) (run_pick_then (hs.at 5 rfl) (hs.at 0 rfl) rfl) ?_
  clear hs a; intro a hs
  refine sees_read hs rfl rfl rfl rfl (wanted_plain rfl) (run_move_then (hs.at 0 rfl) rfl) ?_
  clear hs a; intro a hs
  refine sees_read hs rfl rfl rfl rfl (wanted_sees hs rfl rfl rfl rfl 0 rfl) (run_move_then (hs.at 61 rfl) rfl) ?_
  clear hs a; intro a hs
  (refine sees_read (v := ?_) hs rfl rfl rfl rfl (wanted_sees hs rfl rfl rfl rfl 1 rfl) ?_ ?_; rotate_left 1; (intro W hW; have hW0 := below_step hBase hW; have e15 := hs.at 65 rfl; go_simp <;> with_reducible rfl); clear hs a; intro a hs)   -- 59 Op.fieldAddr 27 (Operand.tmp 15) 0
  (refine sees_read (v := ?_) hs rfl rfl rfl rfl (wanted_sees hs rfl rfl rfl rfl 2 rfl) ?_ ?_; rotate_left 1; (intro W hW; have hW0 := below_step hBase hW; have e212 := hs.at 0 rfl; go_simp <;> with_reducible rfl); clear hs a; intro a hs)   -- 60 Op.indexAddr 23 (Operand.tmp 212) (Operand.const (Value.int
  (refine sees_read (v := ?_) hs rfl rfl rfl rfl (wanted_sees hs rfl rfl rfl rfl 3 rfl) ?_ ?_; rotate_left 1; (intro W hW; have hW0 := below_step hBase hW; have e213 := hs.at 0 rfl; go_simp <;> with_reducible rfl); clear hs a; intro a hs)   -- 61 Op.load 22 (Operand.tmp 213)
  refine sees_make hs rfl rfl rfl rfl (wanted_sees hs rfl rfl rfl rfl 4 rfl) (fun K hK => ?_)
  have e210 := hs.at 3 rfl
  go_simp
  clear e210
  refine (number_first F X HX _ _ _ (hr6.keep hBase)).mono ?_
  rintro e w16 ⟨rfl, hbx⟩
  refine hK.out _ _ hbx ?_
  clear hK K hs a
  replace hBase := below_step hBase hbx
  intro a hs
  (refine sees_read (v := ?_) hs rfl rfl rfl rfl (wanted_sees hs rfl rfl rfl rfl 5 rfl) ?_ ?_; rotate_left 1; (intro W hW; have hW0 := below_step hBase hW; have e211 := hs.at 0 rfl; have e214 := hs.at 1 rfl; go_simp <;> with_reducible rfl); clear hs a; intro a hs)   -- 62 Op.binOp BinOp.eql 22 (Operand.tmp 211) (Operand.tmp 214) 22
  refine sees_read hs rfl rfl rfl rfl (wanted_plain rfl) (run_pick_then (hs.at 6 rfl) (hs.at 0 rfl) rfl) ?_
  clear hs a; intro a hs
  refine sees_read hs rfl rfl rfl rfl (wanted_plain rfl) (run_move_then (hs.at 0 rfl) rfl) ?_
  clear hs a; intro a hs
  refine sees_read hs rfl rfl rfl rfl (wanted_sees hs rfl rfl rfl rfl 0 rfl) (run_move_then (hs.at 69 rfl) rfl) ?_
  clear hs a; intro a hs
  (refine sees_read (v := ?_) hs rfl rfl rfl rfl (wanted_sees hs rfl rfl rfl rfl 1 rfl) ?_ ?_; rotate_left 1; (intro W hW; have hW0 := below_step hBase hW; have e15 := hs.at 73 rfl; go_simp <;> with_reducible rfl); clear hs a; intro a hs)   -- 67 Op.fieldAddr 27 (Operand.tmp 15) 0
  (refine sees_read (v := ?_) hs rfl rfl rfl rfl (wanted_sees hs rfl rfl rfl rfl 2 rfl) ?_ ?_; rotate_left 1; (intro W hW; have hW0 := below_step hBase hW; have e220 := hs.at 0 rfl; go_simp <;> with_reducible rfl); clear hs a; intro a hs)   -- 68 Op.indexAddr 23 (Operand.tmp 220) (Operand.const (Value.int
  (refine sees_read (v := ?_) hs rfl rfl rfl rfl (wanted_sees hs rfl rfl rfl rfl 3 rfl) ?_ ?_; rotate_left 1; (intro W hW; have hW0 := below_step hBase hW; have e221 := hs.at 0 rfl; go_simp <;> with_reducible rfl); clear hs a; intro a hs)   -- 69 Op.load 22 (Operand.tmp 221)
  refine sees_make hs rfl rfl rfl rfl (wanted_sees hs rfl rfl rfl rfl 4 rfl) (fun K hK => ?_)
  have e218 := hs.at 3 rfl
  go_simp
  clear e218
  refine (number_last F X HX _ _ _ (hr6.keep hBase)).mono ?_
  rintro e w17 ⟨rfl, hbx⟩
  refine hK.out _ _ hbx ?_
  clear hK K hs a
  replace hBase := below_step hBase hbx
  intro a hs
  (refine sees_read (v := ?_) hs rfl rfl rfl rfl (wanted_sees hs rfl rfl rfl rfl 5 rfl) ?_ ?_; rotate_left 1; (intro W hW; have hW0 := below_step hBase hW; have e219 := hs.at 0 rfl; have e222 := hs.at 1 rfl; go_simp <;> with_reducible rfl); clear hs a; intro a hs)   -- 70 Op.binOp BinOp.eql 22 (Operand.tmp 219) (Operand.tmp 222) 22
  refine sees_read hs rfl rfl rfl rfl (wanted_plain rfl) (run_pick_then (hs.at 6 rfl) (hs.at 0 rfl) rfl) ?_
  clear hs a; intro a hs
  refine sees_read hs rfl rfl rfl rfl (wanted_plain rfl) (run_move_then (hs.at 0 rfl) rfl) ?_
  clear hs a; intro a hs
  refine sees_read hs rfl rfl rfl rfl (wanted_sees hs rfl rfl rfl rfl 0 rfl) (run_move_then (hs.at 77 rfl) rfl) ?_
  clear hs a; intro a hs
  (refine sees_read (v := ?_) hs rfl rfl rfl rfl (wanted_sees hs rfl rfl rfl rfl 1 rfl) ?_ ?_; rotate_left 1; (intro W hW; have hW0 := below_step hBase hW; have e226 := hs.at 0 rfl; go_simp <;> with_reducible rfl); clear hs a; intro a hs)   -- 74 Op.convert 24 9 (Operand.tmp 226)
  refine sees_read hs rfl rfl rfl rfl (wanted_sees hs rfl rfl rfl rfl 2 rfl) (run_move_then (hs.at 83 rfl) rfl) ?_
  clear hs a; intro a hs
  refine sees_make hs rfl rfl rfl rfl (wanted_sees hs rfl rfl rfl rfl 3 rfl) (fun K hK => ?_)
  have e228 := hs.at 0 rfl
  go_simp
  clear e228
  refine (bytes_law F.toL _ _ _ (hrk.keep hBase) (by simp [St.toL])).mono ?_
  rintro e w18 ⟨A18, c18, rfl, hc18, hr18, hbx⟩
  rw [HX.out] at hc18 hr18 ⊢
  rw [H32.out]
  refine hK.out _ _ hbx ?_
  clear hK K hs a
  replace hBase := below_step hBase hbx
  intro a hs
  have hs5 : ∀ W, Below w18.heap.size w18 W → (convert 24 9 (.slice A18 32 c18)).run Tryd.prog W = .ok (.string ⟨X.toArray⟩) W := fun W hW => run_str W _ _ _ Tryd.underlying24 Tryd.underlying5 Tryd.underlying9 A18 X _ c18 H32.out (hr18.keep hW)
  (refine sees_read (v := ?_) hs rfl rfl rfl rfl (wanted_sees hs rfl rfl rfl rfl 4 rfl) ?_ ?_; rotate_left 1; (intro W hW; have hW0 := below_step hBase hW; have e229 := hs.at 0 rfl; go_simp <;> with_reducible rfl); clear hs a; intro a hs)   -- 77 Op.convert 24 9 (Operand.tmp 229)
  (refine sees_read (v := ?_) hs rfl rfl rfl rfl (wanted_sees hs rfl rfl rfl rfl 5 rfl) ?_ ?_; rotate_left 1; (intro W hW; have hW0 := below_step hBase hW; have e227 := hs.at 3 rfl; have e230 := hs.at 0 rfl; go_simp <;> with_reducible rfl); clear hs a; intro a hs)   -- 78 Op.binOp BinOp.eql 9 (Operand.tmp 227) (Operand.tmp 230) 9
  refine sees_read hs rfl rfl rfl rfl (wanted_plain rfl) (run_pick_then (hs.at 6 rfl) (hs.at 0 rfl) rfl) ?_
  clear hs a; intro a hs
  refine sees_read hs rfl rfl rfl rfl (wanted_plain rfl) (run_assign_then (hs.at 0 rfl) rfl) ?_
  clear hs a; intro a hs
  refine plan_done ?_
  exact hR _ _ _ hs hBase

/-- The region ahead of it. -/
noncomputable def ops25 : Array Oper := (Tryd.f3.body.bind (regionOf 25)).getD #[]
set_option maxRecDepth 100000 in
set_option maxHeartbeats 4000000 in
theorem region25 (s2 F : St) (b r T X G : List UInt8) (B A A6 A8 A11 : Option Addr) (c d c6 c8 c11 many : Nat) (w w5 w9 wr : World) (a : Act) (R : Exit → Act → World → Prop)
    (hR5 : Row wr (w.heap.size + 1) 27 [.int .u32 (s2.a.toNat : Int), .int .u32 (s2.b.toNat : Int), .int .u32 (s2.c.toNat : Int), .int .u32 (s2.d.toNat : Int), .int .u32 (s2.e.toNat : Int), .int .u32 (s2.f.toNat : Int), .int .u32 (s2.g.toNat : Int), .int .u32 (s2.h.toNat : Int), .slice A r.length c, .int .u64 (many : Int)]) (hr : Rd vB wr A r) (hn : r.length < 64) (hm : many < 18446744073709551616) (HKw : Hid (KTab wr))
    (HG : Hid (G = fillL r many)) (HF : Hid (F = s2.from G)) (HX : Hid (bytesL F.toL = X)) (H32 : Hid (X.length = 32))
    (hs : Sees 233 a [(1, .slice B b.length d), (5, .pointer (some ⟨w.heap.size + 1, 0, none⟩)), (9, .pointer (some ⟨w5.heap.size, 0, none⟩)), (10, .int .i64 0), (11, .slice A6 32 c6), (12, .int .i64 0), (13, .slice A8 T.length c8), (15, .pointer (some ⟨w9.heap.size, 0, none⟩)), (16, .slice A11 8 c11)])
    (hR : ∀ a W A12 c12, Rd vB W A12 X → Below wr.heap.size wr W → Sees 233 a [(1, .slice B b.length d), (5, .pointer (some ⟨w.heap.size + 1, 0, none⟩)), (9, .pointer (some ⟨w5.heap.size, 0, none⟩)), (10, .int .i64 0), (11, .slice A6 32 c6), (12, .int .i64 0), (13, .slice A8 T.length c8), (15, .pointer (some ⟨w9.heap.size, 0, none⟩)), (16, .slice A11 8 c11), (18, .slice A12 32 c12), (19, .int .i64 0)] → R .normal a W) :
    (Code.region 25 ops25 false).wp Tryd.prog R a wr := by
  conv => arg 2; arg 2; whnf
  have y8 : wr.cell? ⟨w.heap.size + 1, 8, none⟩ = some (.slice A r.length c) := hR5.cell rfl
  have y9 : wr.cell? ⟨w.heap.size + 1, 9, none⟩ = some (.int .u64 (many : Int)) := hR5.cell rfl
  refine wp_region_seesl _ hs ?_
  clear hs a
  intro a hs
  (refine seesl_read (v := ?_) hs rfl rfl rfl (wanted_plain rfl) ?_ ?_; rotate_left 1; (have e5 := hs.at 1 rfl; go_simp <;> with_reducible rfl); clear hs a; intro a hs)   -- 0 Op.fieldAddr 27 (Operand.tmp 5) 0
  refine seesl_load hs rfl rfl rfl (wanted_plain rfl) 23 143 rfl (w.heap.size + 1) 0 (hs.at 0 rfl) [.int .u32 (s2.a.toNat : Int), .int .u32 (s2.b.toNat : Int), .int .u32 (s2.c.toNat : Int), .int .u32 (s2.d.toNat : Int), .int .u32 (s2.e.toNat : Int), .int .u32 (s2.f.toNat : Int), .int .u32 (s2.g.toNat : Int), .int .u32 (s2.h.toNat : Int)] _ (hR5.range_part 0 _ (by rfl)) Tryd.underlying23 rfl (by exact size_st) ?_
  clear hs a; intro a hs
  (refine seesl_read (v := ?_) hs rfl rfl rfl (wanted_plain rfl) ?_ ?_; rotate_left 1; (have e5 := hs.at 3 rfl; go_simp <;> with_reducible rfl); clear hs a; intro a hs)   -- 2 Op.fieldAddr 27 (Operand.tmp 5) 1
  (refine seesl_read (v := ?_) hs rfl rfl rfl (wanted_plain rfl) ?_ ?_; rotate_left 1; (have e145 := hs.at 0 rfl; go_simp <;> with_reducible rfl); clear hs a; intro a hs)   -- 3 Op.load 24 (Operand.tmp 145)
  (refine seesl_read (v := ?_) hs rfl rfl rfl (wanted_plain rfl) ?_ ?_; rotate_left 1; (have e5 := hs.at 5 rfl; go_simp <;> with_reducible rfl); clear hs a; intro a hs)   -- 4 Op.fieldAddr 27 (Operand.tmp 5) 2
  (refine seesl_read (v := ?_) hs rfl rfl rfl (wanted_plain rfl) ?_ ?_; rotate_left 1; (have e147 := hs.at 0 rfl; go_simp <;> with_reducible rfl); clear hs a; intro a hs)   -- 5 Op.load 25 (Operand.tmp 147)
  (refine seesl_read (v := ?_) hs rfl rfl rfl (wanted_plain rfl) ?_ ?_; rotate_left 1; (have e144 := hs.at 4 rfl; have f144 := hs.at' 4 rfl; have e146 := hs.at 2 rfl; have f146 := hs.at' 2 rfl; have e148 := hs.at 0 rfl; have f148 := hs.at' 0 rfl; go_simp <;> with_reducible rfl); clear hs a; intro a hs)   -- 6 Op.build 27 #[(0, Operand.tmp 144), (1, Operand.tmp 146), (2
  refine seesl_make hs rfl rfl rfl (wanted_plain rfl) (fun K hK => ?_)
  have e149 := hs.at 0 rfl
  go_simp
  clear e149
  refine (end_any s2 r _ _ _ _ hr hn hm HKw).mono ?_
  rintro e w12 ⟨A12, c12, rfl, hc12, hr12, hb12⟩
  rw [← HG.out, ← HF.out, HX.out] at hc12 hr12 ⊢
  rw [H32.out] at hc12 ⊢
  refine hK.out _ _ ?_
  clear hK K hs a
  intro a hs
  refine seesl_read hs rfl rfl rfl (wanted_plain rfl) (run_move_then (S := fun _ => True) (hs.at 0 rfl) rfl _ trivial) ?_
  clear hs a; intro a hs
  (refine seesl_read (v := ?_) hs rfl rfl rfl (wanted_plain rfl) ?_ ?_; rotate_left 1; (have e142 := hs.at 0 rfl; go_simp <;> with_reducible rfl); clear hs a; intro a hs)   -- 9 Op.extract (Operand.tmp 142) 0
  (refine seesl_read (v := ?_) hs rfl rfl rfl (wanted_plain rfl) ?_ ?_; rotate_left 1; (have e142 := hs.at 1 rfl; go_simp <;> with_reducible rfl); clear hs a; intro a hs)   -- 10 Op.extract (Operand.tmp 142) 1
  refine seesl_read hs rfl rfl rfl (wanted_plain rfl) (run_assign_then (S := fun _ => True) (hs.at 1 rfl) rfl _ trivial) ?_
  clear hs a; intro a hs
  refine seesl_read hs rfl rfl rfl (wanted_plain rfl) (run_assign_then (S := fun _ => True) (hs.at 1 rfl) rfl _ trivial) ?_
  clear hs a; intro a hs
  refine seesl_done ?_
  have h19 := hs.at 0 rfl
  have h18 := hs.at 1 rfl
  exact hR a w12 A12 c12 hr12 hb12 ⟨hs.1, hs.2.1, hs.at 13 rfl, hs.at 14 rfl, hs.at 15 rfl, hs.at 16 rfl, hs.at 17 rfl, hs.at 18 rfl, hs.at 19 rfl, hs.at 20 rfl, hs.at 21 rfl, h18, h19, trivial⟩
end Go.Proofs.YtdokbhcoekffpaaDoor
