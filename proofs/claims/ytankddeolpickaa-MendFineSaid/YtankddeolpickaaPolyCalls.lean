/-
  What the program's calls of layer 8 answer, over the landed code: Quo, and what the texts before say of the others. No conditions but those typed.
-/
import Derived.Test.YtankddeolpickaaPolyProds
import Derived.Test.YtankddeolpickaaStillIn
import Derived.Test.YtankddeolpickaaPolyDivs
namespace Go.Proofs.Ytankddeolpickaa
set_option maxRecDepth 100000
open Go.RowKit Go.Shelf
set_option linter.unusedSimpArgs false
set_option linter.unusedVariables false

attribute [local go_sem] Oper.semAt_some

/-- What the program's division hands back: both plain; none, if the divisor is 0. -/
def QuoGood (p q : List UInt8) (w : World) (e : Ending) (w' : World) : Prop :=
  ∃ (a r : List UInt8) (A B : Option Addr) (n m c d : Nat), e = .returned (.tuple #[.slice A n c, .slice B m d, .int .i64 0]) ∧ Hid (a.length = n) ∧ Hid (r.length = m) ∧ n ≤ c ∧ m ≤ d ∧ Rd vB w' A a ∧ Rd vB w' B r ∧ Below w.heap.size w w' ∧ Hid (IsQuo p q a r ∧ plainL a = a ∧ plainL r = r)
def QuoBad (w : World) (e : Ending) (w' : World) : Prop :=
  ∃ (A B : Option Addr) (c d : Nat), e = .returned (.tuple #[.slice A 0 c, .slice B 0 d, .int .i64 1]) ∧ Below w.heap.size w w'
theorem quoP_bad (p q : List UInt8) (n m : Nat) (A B : Option Addr) (c d : Nat) (w : World) (HN : Hid (p.length = n)) (HM : Hid (q.length = m)) (hp : Rd vB w A p) (hq : Rd vB w B q) (hc : n ≤ c) (hd : m ≤ d) (hn : n ≤ 50000) (hm : m ≤ 50000) (HQ : Hid (plainL q = [])) :
    Calls Try.prog 21 #[.slice A n c, .slice B m d] w (QuoBad w) := by
  have hB0 := below_new (Below.refl _ w) (.cells #[.slice B m d] 22)
  have bQ := Boxed.new w 22 (.slice B m d)
  have hcut := cutP_any q m B d _ HM (hq.keep hB0) hd (by omega)
  have HC := Lib.hid hcut
  have bQc := bQ.cell
  clear hcut
  go_enter Try.func21, Try.ntmps21
  go_wp2_with fail
  refine HC.out.mono ?_
  rintro e w1 ⟨k2, rfl, HK2, hk2, hb1⟩
  have e2 : k2 = 0 := by
    have h2 := HK2.out
    rw [HQ.out] at h2
    exact h2.symm
  subst e2
  have bQ1 : Boxed w1 w.heap.size 22 (.slice B m d) := (hb1.block _ bQ.lt).trans bQ
  have bQ1c := bQ1.cell
  have bQ1f := bQ1.frozen
  have hB2 := (below_step hB0 hb1).setCell (p := ⟨w.heap.size, 0, none⟩) (Nat.le_refl _) (.slice B 0 d)
  clear bQ bQ1 hB0 hb1
  go_wp2_with fail
  go_ret3
  exact ⟨none, none, 0, 0, rfl, hB2⟩
theorem rd_put {α : Type} {f : α → Value} {w : World} {A : Option Addr} {l : List α} (h : Rd f w A l) {D : Nat} {o o' : Obj} (hD : w.heap[D]? = some o) (ho : o.isCells = false) : Rd f (w.putObj D o') A l := fun hn => by
  obtain ⟨b, ob, e, hc⟩ := h hn
  exact ⟨b, ob, e, fun i hi => cell_kept (hc i hi) (grownBy_putObj' w D o') (fun r e => by cases e; exact ⟨_, hD, ho⟩)⟩
/-- What a round of Quo keeps: what lay below, the iterator's own box, and that the slice it goes over is there. -/
def KpQ (n₀ Bs g K : Nat) (W W' : World) : Prop := KpB n₀ Bs W W' ∧ ((∃ l : List UInt8, l.length = K ∧ Cel W g 5 l) → ∃ l : List UInt8, l.length = K ∧ Cel W' g 5 l)
theorem KpQ.refl (n₀ Bs g K : Nat) (W : World) : KpQ n₀ Bs g K W W := ⟨KpB.refl _ _ _, id⟩
theorem KpQ.trans {n₀ Bs g K : Nat} {X Y Z : World} (h : KpQ n₀ Bs g K X Y) (k : KpQ n₀ Bs g K Y Z) : KpQ n₀ Bs g K X Z := ⟨h.1.trans k.1, fun e => k.2 (h.2 e)⟩
theorem KpQ.own {n₀ Bs g K : Nat} {w : World} (hn : n₀ ≤ w.heap.size) (hB : Bs < w.heap.size) (hg : g < w.heap.size) (W : World) (l : Nat) (o o' : Obj) (hl : w.heap.size ≤ l) (h : W.heap[l]? = some o) (h1 : o.isCells = false) (h2 : o.isWalk = false) : KpQ n₀ Bs g K W (W.putObj l o') :=
  ⟨KpB.own hn hB W l o o' hl h h1 h2, fun ⟨x, hx, L, r1, r2⟩ => ⟨x, hx, L, (World.putObj_heap_other (by omega)).trans r1, r2⟩⟩
/-- Between two rounds of Quo. -/
def DivI (w : World) (Q P : List UInt8) (iv : UInt8) (last K L0 bq bl bi be bo bs gO gL : Nat) (vq ve vo : Value) {V : Nat → UInt8 → Prop} (pre : List (Bk K V)) (W : World) : Prop :=
  ((Boxed W bq 22 vq ∧ Boxed W bl 3 (.int .i64 (last : Int)) ∧ Boxed W bi 5 (.int .u8 (iv.toNat : Int)) ∧ Boxed W be 22 ve ∧ Boxed W bo 22 vo ∧ Boxed W bs 22 vo) ∧
    Cel W gO 5 (divF Q iv last (List.replicate K 0, P) (pre.map Bk.at)).1 ∧ (0 < L0 → Cel W gL 5 (divF Q iv last (List.replicate K 0, P) (pre.map Bk.at)).2)) ∧ Below w.heap.size w W
theorem divI_own (w : World) (Q P : List UInt8) (iv : UInt8) (last K L0 bq bl bi be bo bs gO gL : Nat) (vq ve vo : Value) {V : Nat → UInt8 → Prop} (B : Nat) (hB : w.heap.size ≤ B) : OwnFrom B (DivI w Q P iv last K L0 bq bl bi be bo bs gO gL vq ve vo (V := V)) :=
  OwnFrom.and (Own.from (fun s A B row hs hg hr => by
    obtain ⟨⟨h1, h2, h3, h4, h5, h8⟩, h6, h7⟩ := hs
    exact ⟨⟨boxed_turn h1 hg hr, boxed_turn h2 hg hr, boxed_turn h3 hg hr, boxed_turn h4 hg hr, boxed_turn h5 hg hr, boxed_turn h8 hg hr⟩, cel_turn h6 hg hr, fun h0 => cel_turn (h7 h0) hg hr⟩) _) (ownFrom_below (Nat.le_refl _) hB)
set_option maxHeartbeats 4000000 in
theorem quoP_good (p q : List UInt8) (n m : Nat) (A B : Option Addr) (c d : Nat) (w : World) (HN : Hid (p.length = n)) (HM : Hid (q.length = m)) (hp : Rd vB w A p) (hq : Rd vB w B q) (hc : n ≤ c) (hd : m ≤ d) (hn : n ≤ 50000) (hm : m ≤ 50000) (HQ : Hid (plainL q ≠ [])) :
    Calls Try.prog 21 #[.slice A n c, .slice B m d] w (QuoGood p q w) := by
  obtain ⟨i0, hi, hz0, hz1, hz2⟩ := info_parts info_u8
  have hB0 := below_new (Below.refl _ w) (.cells #[.slice B m d] 22)
  have bQ := Boxed.new w 22 (.slice B m d)
  have hcut := cutP_any q m B d _ HM (hq.keep hB0) hd (by omega)
  have HC := Lib.hid hcut
  have bQc := bQ.cell
  clear hcut
  refine (callsIn_wide (n := 3)).1 ?_
  refine callsIn_of_wp_marks Try.func21 rfl trivial ?_ rfl
  simp only [Try.ntmps21, List.size_toArray, List.length_cons, List.length_nil, Nat.reduceAdd, Nat.reduceSub, Array.replicate_succ, Array.replicate_zero, List.push_toArray, List.append_toArray, List.nil_append, List.cons_append]
  refine wpIn_wide.2 ?_
  go_wp2_with fail
  refine HC.out.mono ?_
  rintro e w1 ⟨k2, rfl, HK2, hk2, hb1⟩
  have bQ1 : Boxed w1 w.heap.size 22 (.slice B m d) := (hb1.block _ bQ.lt).trans bQ
  have bQ1c := bQ1.cell
  have bQ1f := bQ1.frozen
  have hB1 := (below_step hB0 hb1).setCell (p := ⟨w.heap.size, 0, none⟩) (Nat.le_refl _) (.slice B k2 d)
  have bQ2 := bQ1.set (.slice B k2 d)
  have bQ2c := bQ2.cell
  obtain ⟨j2, rfl⟩ : ∃ j, k2 = j + 1 := ⟨k2 - 1, by have h2 := HK2.out; have := List.length_pos_iff.2 HQ.out; omega⟩
  have z2 : (((j2 + 1 : Nat) : Int) == 0) = false := beq_eq_false_iff_ne.2 (by omega)
  go_upto_region 4 with fail
  have hrQ := ((hq.keep hB0).plain).keep hb1
  have hrQ2 : Rd vB (w1.setCell ⟨w.heap.size, 0, none⟩ (.slice B (j2 + 1) d)) B (plainL q) := fun hn => by
    obtain ⟨b, o, e1, hcell⟩ := hrQ hn
    have hoff := hq.plain.off hn ⟨b, o, none⟩ e1
    exact ⟨b, o, e1, fun i hi => (World.cell?_setCell_other _ _ _ _ (by intro e; injection e with e2; dsimp only at hoff; omega)).trans (hcell i hi)⟩
  have hsz2 : (w1.setCell ⟨w.heap.size, 0, none⟩ (.slice B (j2 + 1) d)).heap.size = w1.heap.size := by simp
  have hsz1 : w.heap.size + 1 ≤ w1.heap.size := by have := hb1.size; simpa using this
  generalize w1.setCell ⟨w.heap.size, 0, none⟩ (.slice B (j2 + 1) d) = W2 at hB1 bQ2 bQ2c hrQ2 hsz2 ⊢
  have HQl : Hid ((plainL q).length = j2 + 1) := HK2.out
  clear bQ1 bQ1c bQ1f hB0 hb1 hrQ bQ bQc z2
  obtain ⟨y, hy⟩ : ∃ y, co (plainL q) j2 = y := ⟨_, rfl⟩
  have hy0 : y ≠ 0 := by
    have := plain_top q HQ.out
    rw [HQl.out, Nat.add_sub_cancel, plain_eqv q j2 |>.symm, hy] at this
    exact this
  have hj2 : j2 < (plainL q).length := by rw [HQl.out]; omega
  obtain ⟨b, ob, rfl, hb, hcell⟩ := hrQ2.at hj2
  have hcy := hcell j2 hj2
  rw [← co_lt _ j2 hj2, hy] at hcy
  unfold vB at hcy
  have HI : Hid (mulB (co (plainL q) j2) (invB y) = 1 ∧ invB y ≠ 0) := ⟨by rw [hy]; exact mul_inv y hy0, inv_ne y hy0⟩
  have hinv := fun W => gfinv_any y W hy0
  generalize invB y = iv at HI hinv
  have HInv := Lib.hid hinv
  have j20 : (0 : Int) ≤ (j2 : Int) := by omega
  have j21 : (j2 : Int) < (j2 : Int) + 1 := by omega
  clear hcell hj2 hy hy0 hinv
  have bL3 := Boxed.new W2 3 (.int .i64 (j2 : Int))
  have bL3c := bL3.cell
  have bQ3 := bQ2.alloc (.cells #[.int .i64 (j2 : Int)] 3)
  have bQ3c := bQ3.cell
  have hcy3 : (W2.alloc (.cells #[.int .i64 (j2 : Int)] 3)).cell? ⟨b, ob + j2, none⟩ = some (.int .u8 (y.toNat : Int)) := ((below_new (Below.refl _ W2) _).cell (p := ⟨b, ob + j2, none⟩) hb).trans hcy
  go_upto_region 6 with (refine (HInv.out _).mono ?_; rintro e wi ⟨rfl, rfl⟩)
  have bI4 := Boxed.new (W2.alloc (.cells #[.int .i64 (j2 : Int)] 3)) 5 (.int .u8 (iv.toNat : Int))
  have bL4 := bL3.alloc (.cells #[.int .u8 (iv.toNat : Int)] 5)
  have bQ4 := bQ3.alloc (.cells #[.int .u8 (iv.toNat : Int)] 5)
  have hB4 := below_new (below_new hB1 (.cells #[.int .i64 (j2 : Int)] 3)) (.cells #[.int .u8 (iv.toNat : Int)] 5)
  have hrQ4 := (hrQ2.keep (below_new (Below.refl _ _) (.cells #[.int .i64 (j2 : Int)] 3))).keep (below_new (Below.refl _ _) (.cells #[.int .u8 (iv.toNat : Int)] 5))
  have hsz4 : ((W2.alloc (.cells #[.int .i64 (j2 : Int)] 3)).alloc (.cells #[.int .u8 (iv.toNat : Int)] 5)).heap.size = w1.heap.size + 2 := by simp [hsz2]
  rw [World.size_alloc, hsz2] at bI4
  rw [hsz2] at bL4
  generalize (W2.alloc (.cells #[.int .i64 (j2 : Int)] 3)).alloc (.cells #[.int .u8 (iv.toNat : Int)] 5) = W4 at bI4 bL4 bQ4 hB4 hrQ4 hsz4 ⊢
  clear bL3 bL3c bQ3 bQ3c hcy3 hcy bQ2 bQ2c hB1 hrQ2 hsz2 HInv hb
  have hPl := plainP_own p n A c W4 HN (hp.keep hB4) hc (by omega)
  have HPl := Lib.hid hPl
  clear hPl
  obtain ⟨L0, hL0⟩ : ∃ L0, (plainL p).length = L0 := ⟨_, rfl⟩
  have HL0 := Lib.hid hL0
  have hL0n : L0 ≤ 50000 := by have := plain_len p; rw [hL0, HN.out] at this; omega
  clear hL0
  go_upto_region 7 with (refine HPl.out.mono ?_; rintro e W5 ⟨v5, rfl, ho5, hb5⟩; rw [HL0.out] at ho5; obtain ⟨A5, c5, rfl, hc5⟩ := own_form ho5)
  have hsz5 : w1.heap.size + 2 ≤ W5.heap.size := by have := hb5.size; omega
  have bI5 : Boxed W5 (w1.heap.size + 1) 5 (.int .u8 (iv.toNat : Int)) := (hb5.block _ bI4.lt).trans bI4
  have bL5 : Boxed W5 w1.heap.size 3 (.int .i64 (j2 : Int)) := (hb5.block _ bL4.lt).trans bL4
  have bQ5 : Boxed W5 w.heap.size 22 (.slice (some ⟨b, ob, none⟩) (j2 + 1) d) := (hb5.block _ bQ4.lt).trans bQ4
  have hB5 := below_step hB4 hb5
  have hrQ5 := hrQ4.keep hb5
  have bE6 := Boxed.new W5 22 (.slice A5 L0 c5)
  have bI6 := bI5.alloc (.cells #[.slice A5 L0 c5] 22)
  have bL6 := bL5.alloc (.cells #[.slice A5 L0 c5] 22)
  have bQ6 := bQ5.alloc (.cells #[.slice A5 L0 c5] 22)
  have hrQ6 := hrQ5.keep (below_new (Below.refl _ _) (.cells #[.slice A5 L0 c5] 22))
  have hB6 := below_new hB5 (.cells #[.slice A5 L0 c5] 22)
  have ho6 := ownsRow_later ho5 (below_new (Below.refl _ _) (.cells #[.slice A5 L0 c5] 22))
  have hsz6 : (W5.alloc (.cells #[.slice A5 L0 c5] 22)).heap.size = W5.heap.size + 1 := by simp
  have hlt5 : ∀ g, (Value.slice A5 L0 c5).ownBlock = some g → W4.heap.size ≤ g ∧ g < W5.heap.size := fun g hg => ho5.lt g hg
  generalize W5.alloc (.cells #[.slice A5 L0 c5] 22) = W6 at bE6 bI6 bL6 bQ6 hrQ6 hB6 ho6 hsz6 ⊢
  rw [hsz4] at hlt5
  clear bI4 bL4 bQ4 hB4 hrQ4 hb5 ho5 bI5 bL5 bQ5 hB5 hrQ5 HPl
  obtain ⟨Kn, hK⟩ : ∃ Kn, Kn = L0 - j2 := ⟨_, rfl⟩
  have q0 : (if (L0 : Int) - (j2 : Int) < 0 then (0 : Int) else (L0 : Int) - (j2 : Int)) = (Kn : Int) := by rw [hK]; split <;> omega
  have q1 : (if (L0 : Int) < (j2 : Int) then (0 : Int) else (L0 : Int) - (j2 : Int)) = (Kn : Int) := by rw [hK]; split <;> omega
  have q2 : (if L0 < j2 then (0 : Int) else (L0 : Int) - (j2 : Int)) = (Kn : Int) := by rw [hK]; split <;> omega
  have hKn : Kn ≤ 50000 := by omega
  have HK := Lib.hid hK
  clear hK
  have bE6c := bE6.cell
  have bL6c := bL6.cell
  go_upto_region 8 with (at_make; refine wpList_make_full _ rfl _ _ 22 rfl W6.heap.size 5 i0 (.int .u8 0) 1 Try.underlying22 hi hz0 hz1 .i64 .i64 _ _ Kn rfl rfl rfl rfl (by rw [hz2]; omega) (by unfold maxLen; omega) (Nat.le_refl _) ?_; intro W7 hown7 hgrow7)
  rw [Nat.mul_one, show (Value.int .u8 0).cells = #[.int .u8 0] from rfl, toList_madeCells_one, zeros_map] at hown7
  obtain ⟨hcO7, _, _⟩ := cel_some hown7 List.length_replicate
  have hb7 : Below W6.heap.size W6 W7 := (Below.refl _ _).grown hgrow7 (Nat.le_refl _) (by simp)
  obtain ⟨gL, hgL⟩ : ∃ gL, 0 < L0 → A5 = some ⟨gL, 0, none⟩ ∧ w1.heap.size + 2 ≤ gL ∧ gL < W5.heap.size ∧ Cel W7 gL 5 (plainL p) := by
    by_cases h0 : 0 < L0
    · obtain ⟨g, hg, _, hcel⟩ := cel_of_own ho6 HL0.out h0
      have := hlt5 g (by rw [hg]; rfl)
      exact ⟨g, fun _ => ⟨hg, this.1, this.2, hcel.later hb7⟩⟩
    · exact ⟨0, fun h => absurd h h0⟩
  have hsz7 : W5.heap.size + 2 ≤ W7.heap.size := by have := hcO7.lt; omega
  have bE7 : Boxed W7 W5.heap.size 22 (.slice A5 L0 c5) := (hb7.block _ bE6.lt).trans bE6
  have bI7 : Boxed W7 (w1.heap.size + 1) 5 (.int .u8 (iv.toNat : Int)) := (hb7.block _ bI6.lt).trans bI6
  have bL7 : Boxed W7 w1.heap.size 3 (.int .i64 (j2 : Int)) := (hb7.block _ bL6.lt).trans bL6
  have bQ7 : Boxed W7 w.heap.size 22 (.slice (some ⟨b, ob, none⟩) (j2 + 1) d) := (hb7.block _ bQ6.lt).trans bQ6
  have hB7 := below_step hB6 hb7
  rw [hsz6] at hcO7
  clear hown7 hgrow7 hb7 bE6 bI6 bL6 bQ6 hrQ6 hB6 ho6 hsz6 hlt5 bE6c bL6c q0 q1 q2 hsz4
  have bO8 := Boxed.new W7 22 (.slice (some ⟨W5.heap.size + 1, 0, none⟩) Kn Kn)
  have bE8 := bE7.alloc (.cells #[.slice (some ⟨W5.heap.size + 1, 0, none⟩) Kn Kn] 22)
  have bI8 := bI7.alloc (.cells #[.slice (some ⟨W5.heap.size + 1, 0, none⟩) Kn Kn] 22)
  have bL8 := bL7.alloc (.cells #[.slice (some ⟨W5.heap.size + 1, 0, none⟩) Kn Kn] 22)
  have bQ8 := bQ7.alloc (.cells #[.slice (some ⟨W5.heap.size + 1, 0, none⟩) Kn Kn] 22)
  have cO8 := hcO7.later (below_new (Below.refl _ W7) (.cells #[.slice (some ⟨W5.heap.size + 1, 0, none⟩) Kn Kn] 22))
  have hgL8 : 0 < L0 → A5 = some ⟨gL, 0, none⟩ ∧ w1.heap.size + 2 ≤ gL ∧ gL < W5.heap.size ∧ Cel (W7.alloc (.cells #[.slice (some ⟨W5.heap.size + 1, 0, none⟩) Kn Kn] 22)) gL 5 (plainL p) := fun h =>
    ⟨(hgL h).1, (hgL h).2.1, (hgL h).2.2.1, (hgL h).2.2.2.later (below_new (Below.refl _ W7) _)⟩
  have hB8 := below_new hB7 (.cells #[.slice (some ⟨W5.heap.size + 1, 0, none⟩) Kn Kn] 22)
  have hsz8 : (W7.alloc (.cells #[.slice (some ⟨W5.heap.size + 1, 0, none⟩) Kn Kn] 22)).heap.size = W7.heap.size + 1 := by simp
  generalize W7.alloc (.cells #[.slice (some ⟨W5.heap.size + 1, 0, none⟩) Kn Kn] 22) = W8 at bO8 bE8 bI8 bL8 bQ8 cO8 hgL8 hB8 hsz8 ⊢
  clear hcO7 hgL bE7 bI7 bL7 bQ7 hB7
  have bO8c := bO8.cell
  go_wp2_with (go_at_call 40; refine (backward_any _ _ _ _).mono ?_; rintro e w' ⟨rfl, rfl⟩)
  refine (wpIn_wide (n := 3)).1 ?_
  have bS9 := Boxed.new W8 22 (.slice (some ⟨W5.heap.size + 1, 0, none⟩) Kn Kn)
  rw [hsz8] at bS9
  have bO9 := bO8.alloc (.cells #[.slice (some ⟨W5.heap.size + 1, 0, none⟩) Kn Kn] 22)
  have bE9 := bE8.alloc (.cells #[.slice (some ⟨W5.heap.size + 1, 0, none⟩) Kn Kn] 22)
  have bI9 := bI8.alloc (.cells #[.slice (some ⟨W5.heap.size + 1, 0, none⟩) Kn Kn] 22)
  have bL9 := bL8.alloc (.cells #[.slice (some ⟨W5.heap.size + 1, 0, none⟩) Kn Kn] 22)
  have bQ9 := bQ8.alloc (.cells #[.slice (some ⟨W5.heap.size + 1, 0, none⟩) Kn Kn] 22)
  have cO9 := cO8.later (below_new (Below.refl _ W8) (.cells #[.slice (some ⟨W5.heap.size + 1, 0, none⟩) Kn Kn] 22))
  have hgL9 : 0 < L0 → A5 = some ⟨gL, 0, none⟩ ∧ w1.heap.size + 2 ≤ gL ∧ gL < W5.heap.size ∧ Cel (W8.alloc (.cells #[.slice (some ⟨W5.heap.size + 1, 0, none⟩) Kn Kn] 22)) gL 5 (plainL p) := fun h =>
    ⟨(hgL8 h).1, (hgL8 h).2.1, (hgL8 h).2.2.1, (hgL8 h).2.2.2.later (below_new (Below.refl _ W8) _)⟩
  have hB9 := below_new hB8 (.cells #[.slice (some ⟨W5.heap.size + 1, 0, none⟩) Kn Kn] 22)
  have hsz9 : (W8.alloc (.cells #[.slice (some ⟨W5.heap.size + 1, 0, none⟩) Kn Kn] 22)).heap.size = W7.heap.size + 2 := by simp [hsz8]
  generalize W8.alloc (.cells #[.slice (some ⟨W5.heap.size + 1, 0, none⟩) Kn Kn] 22) = W9 at bS9 bO9 bE9 bI9 bL9 bQ9 cO9 hgL9 hB9 hsz9 ⊢
  clear bO8 bE8 bI8 bL8 bQ8 cO8 hgL8 hB8 hsz8 bO8c
  have hKL : Kn = 0 ∨ L0 = Kn + j2 := by have := HK.out; omega
  have hgLn : 0 < L0 → gL < W5.heap.size := fun h => (hgL9 h).2.2.1
  refine wpIn_rangeFunc_ownG rfl (by omega) (gf := 49) (lb := #[.pointer (some ⟨W7.heap.size + 1, 0, none⟩)]) rfl trivial (enters_of Try.func49 (by kernel_rfl) rfl)
    (back_stops Fence.wide _ trivial rfl (by omega) (W7.heap.size + 1) Kn Kn (some ⟨W5.heap.size + 1, 0, none⟩) (fun _ _ => True) (KpQ w.heap.size (W7.heap.size + 1) (W5.heap.size + 1) Kn) (by omega) W9 (KpQ.refl _ _ _ _) (fun _ _ _ => KpQ.trans)
      (fun W hW W' hK => ⟨by
        have h1 : W'.heap[W7.heap.size + 1]? = W9.heap[W7.heap.size + 1]? := hK.1.2.trans (hW.block _ (by omega))
        exact Boxed.cell (t := 22) (h1.trans bS9), by
        obtain ⟨l, hl, hc⟩ := hK.2 ⟨_, List.length_replicate, cO9.later hW⟩
        exact ⟨l, hl, hc.rd, fun _ _ => trivial⟩⟩))
    (fun h k => KpQ.trans h k) (KpQ.own (by omega) (by omega) (by omega)) (Below.refl _ _) (fun _ => rfl)
    (DivI w (plainL q) (plainL p) iv j2 Kn L0 w.heap.size w1.heap.size (w1.heap.size + 1) W5.heap.size W7.heap.size (W7.heap.size + 1) (W5.heap.size + 1) gL (.slice (some ⟨b, ob, none⟩) (j2 + 1) d) (.slice A5 L0 c5) (.slice (some ⟨W5.heap.size + 1, 0, none⟩) Kn Kn)) (fun _ _ _ => False)
    (divI_own _ _ _ _ _ _ _ _ _ _ _ _ _ _ _ _ _ _ _ (by omega)) (fun _ _ _ _ _ hs _ _ => hs)
    ⟨⟨⟨bQ9, bL9, bI9, bE9, bO9, bS9⟩, cO9, fun h => (hgL9 h).2.2.2⟩, hB9⟩
    (fun x => { tmps := #[.slice A n c, .slice (some ⟨b, ob, none⟩) m d, undef, .pointer (some ⟨w.heap.size, 0, none⟩), .slice none 0 0, .slice none 0 0, .int .i64 0, .pointer (some ⟨w1.heap.size, 0, none⟩), .pointer (some ⟨w1.heap.size + 1, 0, none⟩), .int .i64 0, .pointer (some ⟨W5.heap.size, 0, none⟩), .pointer (some ⟨W7.heap.size, 0, none⟩), .int .i64 (x.at : Int), .slice (some ⟨b, ob, none⟩) m d, .slice (some ⟨b, ob, none⟩) (j2 + 1) d, .slice (some ⟨b, ob, none⟩) (j2 + 1) d, .int .i64 ((j2 : Int) + 1), .bool false, .slice (some ⟨b, ob, none⟩) (j2 + 1) d, .int .i64 ((j2 : Int) + 1), .int .i64 (j2 : Int), .tuple #[.int .u8 (iv.toNat : Int), .int .i64 0], .slice (some ⟨b, ob, none⟩) (j2 + 1) d, .int .i64 (j2 : Int), .pointer (some ⟨b, ob + j2, none⟩), .int .u8 (y.toNat : Int), .tuple #[.int .u8 (iv.toNat : Int), .int .i64 0], .int .u8 (iv.toNat : Int), .int .i64 0, .slice A n c, .slice A5 L0 c5, .slice A5 L0 c5, .int .i64 (L0 : Int), .int .i64 (j2 : Int), .int .i64 ((L0 : Int) - (j2 : Int)), .int .i64 (Kn : Int), .slice (some ⟨W5.heap.size + 1, 0, none⟩) Kn Kn, .slice (some ⟨W5.heap.size + 1, 0, none⟩) Kn Kn, .func (.func 49) #[] #[.pointer (some ⟨W7.heap.size + 1, 0, none⟩)], .int .i64 (x.at : Int), .int .u8 (x.val.toNat : Int), undef, undef, undef, undef, undef, undef, undef, undef, undef, undef, undef, undef, undef, undef, undef, undef, undef, undef, undef, undef, undef, undef, undef], defers := [] }) ?assign ?body ?done ?stop
  case assign =>
    intro l x W Kn hK
    unfold Bk.enc
    gi_wp2
    exact hK
  case body =>
    rintro l pre x W ⟨⟨⟨hq1, hl1, hi1, he1, ho1, hb1⟩, hO, hL⟩, hB⟩ hlen
    have hkK := x.lt
    have hLn : L0 = Kn + j2 := by omega
    have hLp : 0 < L0 := by omega
    obtain ⟨rfl, hg1, hg2, _⟩ := hgL9 hLp
    have hcL := hL hLp
    obtain ⟨s1, s2⟩ := divF_length (plainL q) iv j2 Kn L0 HQl.out (by omega) (pre.map Bk.at) (List.replicate Kn 0, plainL p) List.length_replicate HL0.out (fun k hk => by obtain ⟨x, _, rfl⟩ := List.mem_map.1 hk; exact x.lt)
    have hs := divF_snoc (plainL q) iv j2 (List.replicate Kn 0, plainL p) (pre.map Bk.at) x.at
    have HP : Hid ((pre ++ [x]).map Bk.at = pre.map Bk.at ++ [x.at]) := by unfold Hid; rw [List.map_append]; rfl
    generalize hk : x.at = k at hkK hs HP ⊢
    generalize divF (plainL q) iv j2 (List.replicate Kn 0, plainL p) (pre.map Bk.at) = s at hO hcL s1 s2 hs
    unfold divS at hs
    have hcx := hcL.get (k + j2) (by omega)
    have hcO := hO.get k (by omega)
    have hfO := hO.frozen k
    generalize co s.2 (k + j2) = z at hcx hs
    have hM : ∀ W, Calls Try.prog 33 #[.int .u8 (z.toNat : Int), .int .u8 (iv.toNat : Int)] W fun e w'' => e = .returned (.int .u8 ((mulB z iv).toNat : Int)) ∧ w'' = W := fun W => (gfmul_any z iv W).mono fun _ _ h => ⟨h.1, h.2.symm⟩
    generalize mulB z iv = tt at hM hs
    have hO1 := hO.drew.set k tt
    have hOn1 : Only (W5.heap.size + 1) W (W.drew.setCell ⟨W5.heap.size + 1, k, none⟩ (.int .u8 (tt.toNat : Int))) := (Only.refl _ W).drew.setCell k _
    have hcL1 := hcL.only hOn1 (by omega)
    have hq2 := Boxed.only hq1 hOn1 (by omega)
    have hl2 := Boxed.only hl1 hOn1 (by omega)
    have hi2 := Boxed.only hi1 hOn1 (by omega)
    have he2 := Boxed.only he1 hOn1 (by omega)
    have ho2 := Boxed.only ho1 hOn1 (by omega)
    have hb2 := Boxed.only hb1 hOn1 (by omega)
    have hkeep1 := hOn1.keeps hO W9.heap.size
    have hB1 : Below w.heap.size W (W.drew.setCell ⟨W5.heap.size + 1, k, none⟩ (.int .u8 (tt.toNat : Int))) := hOn1.below.mono (by omega)
    have hbs1 : (W.drew.setCell ⟨W5.heap.size + 1, k, none⟩ (.int .u8 (tt.toNat : Int))).heap[W7.heap.size + 1]? = W.heap[W7.heap.size + 1]? := by
      exact Below.heap_setCell W.drew ⟨W5.heap.size + 1, k, none⟩ _ _ (by dsimp only; omega)
    have i0' : (0 : Int) ≤ (k : Int) := by omega
    have i1' : (k : Int) < (Kn : Int) := by omega
    have i2' : (0 : Int) ≤ (k : Int) + (j2 : Int) := by omega
    have i3' : (k : Int) + (j2 : Int) < (L0 : Int) := by omega
    have i4' : IntKind.i64.wrap ((k : Int) + (j2 : Int)) = (k : Int) + (j2 : Int) := by rw [IntKind.wrap_i64]; omega
    have i5' : (k : Int) + (j2 : Int) = ((k + j2 : Nat) : Int) := by omega
    have ho1c : W.drew.cell? ⟨W7.heap.size, 0, none⟩ = _ := ho1.cell
    have he1c : W.drew.cell? ⟨W5.heap.size, 0, none⟩ = _ := he1.cell
    have hl1c : W.drew.cell? ⟨w1.heap.size, 0, none⟩ = _ := hl1.cell
    have hi1c : W.drew.cell? ⟨w1.heap.size + 1, 0, none⟩ = _ := hi1.cell
    have e5 : ((k : Int) + (j2 : Int)).toNat = k + j2 := by omega
    have hcx' : W.drew.cell? ⟨gL, ((k : Int) + (j2 : Int)).toNat, none⟩ = some (.int .u8 (z.toNat : Int)) := by rw [e5]; exact hcx
    have hcO' : W.drew.cell? ⟨W5.heap.size + 1, k, none⟩ = _ := hcO
    have hfO' : W.drew.frozen? ⟨W5.heap.size + 1, k, none⟩ = false := hfO
    have HMu := Lib.hid hM
    have HLn := Lib.hid hLn
    clear e5 hLn hM i5' hO hcL hL hq1 hl1 hi1 he1 ho1 hb1 hcx hcO hfO hlen bS9 bO9 bE9 bI9 bL9 bQ9 cO9 hgL9
    gi_wp2
    refine wpIn_region_still_tail 11 (by kernel_rfl) (by kernel_rfl) (by rfl) ?_
    generalize hWd : W.drew = Wd at *
    simp only [List.take_succ_cons, List.take_zero, List.drop_succ_cons, List.drop_zero]
    iterate 9 still_step
    still_call (HMu.out _)
    still_step
    refine wpStill_nil ?_
    clear ho1c he1c hl1c hi1c hcx' HMu
    gi_wp2
    have hcOt := hO1.get k (by rw [List.length_set]; omega)
    rw [co_set _ _ _ _ (by omega), if_pos rfl] at hcOt
    generalize Wd.setCell ⟨W5.heap.size + 1, k, none⟩ (.int .u8 (tt.toNat : Int)) = W1' at hO1 hOn1 hcL1 hq2 hl2 hi2 he2 ho2 hb2 hkeep1 hB1 hbs1 hcOt ⊢
    have hrQ1 : Rd vB W1'.drew (some ⟨b, ob, none⟩) (plainL q) := hq.plain.keep (hB.trans hB1).drew
    have hAp : plainL q ≠ [] → ∀ ad, (some (⟨b, ob, none⟩ : Addr)) = some ad → ad.block ≠ gL := fun hn ad ha => by
      have := hq.plain.off hn ad ha
      omega
    have hA := addtimes_any s.2 (plainL q) tt gL k (L0 - k) (c5 - k) (j2 + 1) (some ⟨b, ob, none⟩) d W1'.drew HQl hcL1.drew hrQ1 hAp (by have := HLn.out; omega) (by omega) (by omega) (by omega)
    have hkc : k < c5 := by omega
    have hcut := fun W => run_cut_at (P := Try.prog) 22 5 Try.underlying22 size_uint8 gL 0 L0 c5 k (by omega) hc5 hkc W
    simp only [Nat.zero_add] at hcut
    have ho2c : W1'.drew.cell? ⟨W7.heap.size, 0, none⟩ = _ := Boxed.cell ho2
    have he2c : W1'.drew.cell? ⟨W5.heap.size, 0, none⟩ = _ := Boxed.cell he2
    have hq2c : W1'.drew.cell? ⟨w.heap.size, 0, none⟩ = _ := Boxed.cell hq2
    have hcOt' : W1'.drew.cell? ⟨W5.heap.size + 1, k, none⟩ = some (.int .u8 (tt.toNat : Int)) := hcOt
    have HA := Lib.hid hA
    clear hA hcOt hrQ1
    refine wpIn_region_still_tail 8 (by kernel_rfl) (by kernel_rfl) (by rfl) ?_
    have hdr : Only gL W1' W1'.drew := (Only.refl _ _).drew
    have hbs2 : W1'.drew.heap[W7.heap.size + 1]? = W1'.heap[W7.heap.size + 1]? := rfl
    generalize W1'.drew = W2' at ho2c he2c hq2c hcOt' HA hdr hbs2 ⊢
    simp only [List.take_succ_cons, List.take_zero, List.drop_succ_cons, List.drop_zero]
    iterate 8 still_step
    refine wpStill_nil ?_
    have HS : Hid (divF (plainL q) iv j2 (List.replicate Kn 0, plainL p) ((pre ++ [x]).map Bk.at) = (s.1.set k tt, atL s.2 k (scaleL tt (plainL q)))) := by
      unfold Hid
      rw [HP.out, hs]
    gi_wp2_with (refine ⟨trivial, ?_⟩; gi_at_call 41; refine (CallsIn.inRound l (callsIn_wide.2 HA.out)).mono ?_; rintro e W3' ⟨⟨v3, rfl⟩, hc3, ho3⟩)
    have hOn3 := hdr.trans ho3
    have hcO3 := hO1.only hOn3 (by omega)
    refine ⟨hkeep1.trans (hOn3.keeps hcL1 _), ⟨⟨hB1.trans (hOn3.below.mono (by omega)), ((hOn3.other _ (by omega) (Boxed.lt hb2)).trans hbs1)⟩, fun _ => ⟨_, by rw [List.length_set]; exact s1, hcO3⟩⟩,
      ⟨⟨Boxed.only hq2 hOn3 (by omega), Boxed.only hl2 hOn3 (by omega), Boxed.only hi2 hOn3 (by omega), Boxed.only he2 hOn3 (by omega), Boxed.only ho2 hOn3 (by omega), Boxed.only hb2 hOn3 (by omega)⟩, ?_, fun _ => ?_⟩, hB.trans (hB1.trans (hOn3.below.mono (by omega)))⟩
    · rw [HS.out]; exact hcO3
    · rw [HS.out]; exact hc3
  case done =>
    rintro D xs W hD hS ⟨⟨⟨hq1, hl1, hi1, he1, ho1, _⟩, hO, hL⟩, hB⟩ hDf
    have hS' : xs.map Bk.at = backN Kn Kn := hS
    rw [hS'] at hO hL
    have hdone := div_done (p := p) (q := q) (inv := iv) HQl.out HI.out.1 HI.out.2 (K := Kn) (by rw [HL0.out]; exact HK.out) rfl
    dsimp only at hdone
    generalize divF (plainL q) iv j2 (List.replicate Kn 0, plainL p) (backN Kn Kn) = s at hO hL hdone
    obtain ⟨s1, s2, hQuo, hp1, hp2⟩ := hdone
    have hrO := hO.rd
    have hrL : Rd vB W A5 s.2 := by
      by_cases h0 : 0 < L0
      · obtain ⟨rfl, _⟩ := hgL9 h0
        exact (hL h0).rd
      · intro hn
        exact absurd (List.eq_nil_of_length_eq_zero (by rw [s2, HL0.out]; omega)) hn
    have hLl : Hid (s.2.length = L0) := s2.trans HL0.out
    have HQR : Hid (IsQuo p q s.1 (plainL s.2) ∧ plainL s.1 = s.1 ∧ plainL (plainL s.2) = plainL s.2) := ⟨hQuo, hp1, hp2⟩
    have HS1 : Hid (s.1.length = Kn) := s1
    have ho1c := ho1.cell
    have he1c := he1.cell
    clear hq1 hl1 hi1 hO hL hQuo hp1 hp2 s1 s2 bS9 bO9 bE9 bI9 bL9 bQ9 cO9 hS hS'
    gi_wp2
    have hcO : ∀ W', Below W.heap.size W W' → W'.cell? ⟨W7.heap.size, 0, none⟩ = some (.slice (some ⟨W5.heap.size + 1, 0, none⟩) Kn Kn) := fun W' h => Boxed.cell ((h.block _ (Boxed.lt ho1)).trans ho1)
    have hcE : ∀ W', Below W.heap.size W W' → W'.cell? ⟨W5.heap.size, 0, none⟩ = some (.slice A5 L0 c5) := fun W' h => Boxed.cell ((h.block _ (Boxed.lt he1)).trans he1)
    have hDl : D < W.heap.size := (Array.getElem?_eq_some_iff.1 hDf).1
    clear ho1c he1c ho1 he1
    go_upto_region 12 with fail
    have hBase : Below W.heap.size W W.drew := (Below.refl _ _).drew
    have hrL' := hrL.keep hBase
    refine wp_region_plan (.step 0 false (.step 1 false (.step 2 true (.step 3 false (.step 4 false (.step 5 false (.nil))))))) (by kernel_rfl) (by kernel_rfl) (by rfl) (by kernel_rfl) ?_
    iterate 2 (refine plan_read rfl (by rfl) (v := ?_) ?_ ?_; rotate_left 1; (intro W hW; have hW0 := below_step hBase hW; (try dsimp only at hW); go_simp <;> with_reducible rfl); simp only [List.getElem_toArray, List.getElem_cons_zero, List.getElem_cons_succ, Act.put, List.setIfInBounds_toArray, List.set_cons_zero, List.set_cons_succ])
    (refine plan_make rfl (by rfl) (fun K hK => ?_); go_simp; (refine (cutP_any s.2 L0 A5 c5 _ hLl hrL' hc5 (by omega)).mono ?_; rintro e w2 ⟨k5, rfl, HK5, hk5, hbx⟩); refine hK.out _ _ hbx ?_; clear hK K; replace hBase := below_step hBase hbx)
    iterate 3 (refine plan_read rfl (by rfl) (v := ?_) ?_ ?_; rotate_left 1; (intro W hW; have hW0 := below_step hBase hW; (try dsimp only at hW); go_simp <;> with_reducible rfl); simp only [List.getElem_toArray, List.getElem_cons_zero, List.getElem_cons_succ, Act.put, List.setIfInBounds_toArray, List.set_cons_zero, List.set_cons_succ])
    refine plan_done ?_
    clear hcO hcE
    go_wp2_with fail
    have hbw2 : Below W.heap.size W w2 := hBase
    have hDf2 : w2.heap[D]? = some (.deferred (some [])) := (hbw2.block D hDl).trans hDf
    refine ⟨by simp, .inl ⟨_, _, rfl, run_takeDeferred hDf2, ?_⟩⟩
    refine ⟨_, results_tmp3 rfl _ _ _, s.1, plainL s.2, some ⟨W5.heap.size + 1, 0, none⟩, A5, Kn, k5, Kn, c5, rfl, HS1, HK5, Nat.le_refl _, by omega, rd_put (hrO.keep hbw2) hDf2 rfl, rd_put ((hrL.keep hbw2).plain) hDf2 rfl, ?_, HQR⟩
    exact (hB.trans (hbw2.mono hB.size)).trans (belowK_b (w := w) (Nat.le_refl _) w2 D _ _ (by omega) hDf2 rfl rfl)
  case stop =>
    rintro D c pre W _ _ h _
    exact h.elim
theorem quo_same {p q a r b s : List UInt8} (h : IsQuo p q a r ∧ plainL a = a ∧ plainL r = r) (g : IsQuo p q b s ∧ plainL b = b ∧ plainL s = s) : a = b ∧ r = s := by
  obtain ⟨e1, e2⟩ := quo_unique h.1 g.1
  exact ⟨by rw [← h.2.1, ← g.2.1]; exact plain_congr e1, by rw [← h.2.2, ← g.2.2]; exact plain_congr e2⟩
end Go.Proofs.Ytankddeolpickaa
