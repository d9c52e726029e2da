/-
  Division as the program does it: a coefficient of what is left after the other, from the last one on. No conditions but those typed.
-/
import Derived.Test.YtcnjackbiimjdaaDoorQ4
import Derived.StillTailTactics
namespace Go.Proofs.YtcnjackbiimjdaaDoor
set_option maxRecDepth 100000
set_option linter.unusedSimpArgs false
set_option linter.unusedVariables false

/-- One round: at place k. -/
def divS (Q : List UInt8) (inv : UInt8) (last : Nat) (s : List UInt8 × List UInt8) (k : Nat) : List UInt8 × List UInt8 :=
  (s.1.set k (mulB (co s.2 (k + last)) inv), atL s.2 k (scaleL (mulB (co s.2 (k + last)) inv) Q))
def divF (Q : List UInt8) (inv : UInt8) (last : Nat) (s : List UInt8 × List UInt8) (ks : List Nat) : List UInt8 × List UInt8 := ks.foldl (divS Q inv last) s
theorem divF_snoc (Q : List UInt8) (inv : UInt8) (last : Nat) (s : List UInt8 × List UInt8) (ks : List Nat) (k : Nat) : divF Q inv last s (ks ++ [k]) = divS Q inv last (divF Q inv last s ks) k := by
  unfold divF
  rw [List.foldl_append]
  rfl
theorem divF_length (Q : List UInt8) (inv : UInt8) (last K n : Nat) (hQ : Q.length = last + 1) (hK : K = 0 ∨ n = K + last) : ∀ (ks : List Nat) (s : List UInt8 × List UInt8), s.1.length = K → s.2.length = n → (∀ k ∈ ks, k < K) → (divF Q inv last s ks).1.length = K ∧ (divF Q inv last s ks).2.length = n
  | [], s, h1, h2, _ => ⟨h1, h2⟩
  | k :: ks, s, h1, h2, hk => by
    have hkK : k < K := hk k (by simp)
    refine divF_length Q inv last K n hQ hK ks (divS Q inv last s k) ?_ ?_ (fun j hj => hk j (List.mem_cons_of_mem _ hj))
    · unfold divS
      rw [List.length_set]
      exact h1
    · unfold divS
      rw [at_length _ _ _ (by unfold scaleL; rw [List.length_map, hQ, h2]; omega), h2]

theorem set_eqv (a : List UInt8) (k : Nat) (t : UInt8) (hk : k < a.length) (h0 : co a k = 0) : Eqv (a.set k t) (addL a (shiftL k [t])) := fun j => by
  rw [co_set _ _ _ _ hk, co_add]
  split
  · next e =>
    subst e
    have := co_shift j [t] 0
    rw [Nat.add_zero] at this
    rw [h0, this, zero_add]
    rfl
  · next e =>
    rcases Nat.lt_or_ge j k with h | h
    · rw [co_shift_low k [t] j h, add_zero]
    · rw [co_ge (shiftL k [t]) j (by rw [shift_length]; simp; omega), add_zero]
theorem div_keeps {Q P a l : List UInt8} {k : Nat} {t : UInt8} (hk : k < a.length) (h0 : co a k = 0) (h : Eqv (addL (mulL a Q) l) P) : Eqv (addL (mulL (a.set k t) Q) (atL l k (scaleL t Q))) P := by
  have e1 : Eqv (mulL (a.set k t) Q) (addL (mulL a Q) (shiftL k (scaleL t Q))) :=
    (mul_congr (set_eqv a k t hk h0) (Eqv.refl Q)).trans ((mulL_add_left _ _ _).trans (add_congr (Eqv.refl _) (mul_shift_one t Q k)))
  refine (add_congr e1 (Eqv.refl _)).trans (Eqv.trans (fun j => ?_) h)
  unfold atL
  simp only [co_add]
  have : ∀ x y z : UInt8, addB (addB x z) (addB y z) = addB x y := fun x y z => by
    have h1 : addB (addB x z) (addB y z) = addB (addB x y) (addB z z) := add_four x z y z
    rw [h1, add_self, add_zero]
  exact this _ _ _

/-- The division, as far as j rounds have come. -/
theorem div_inv {Q P : List UInt8} {inv : UInt8} {last K : Nat} (hQ : Q.length = last + 1) (hq : mulB (co Q last) inv = 1) (hP : K = 0 ∨ P.length = K + last) : ∀ j : Nat, j ≤ K →
    let s := divF Q inv last (List.replicate K 0, P) (backN K j)
    s.1.length = K ∧ s.2.length = P.length ∧ Eqv (addL (mulL s.1 Q) s.2) P ∧ (∀ i, i + j < K → co s.1 i = 0) ∧ (0 < K → ∀ i, K - j + last ≤ i → co s.2 i = 0) ∧ (0 < j → co s.1 (K - 1) = mulB (co P (K - 1 + last)) inv) := by
  intro j
  induction j with
  | zero =>
    intro _
    refine ⟨List.length_replicate, rfl, ?_, fun i _ => co_pad [] K i, fun h0 i hi => co_ge P i (by rcases hP with h | h <;> omega), fun h => absurd h (Nat.not_lt_zero _)⟩
    have hz : Eqv (List.replicate K (0 : UInt8)) [] := fun i => by rw [co_nil]; exact co_pad [] K i
    have h2 : Eqv (mulL (List.replicate K 0) Q) [] := (mul_congr hz (Eqv.refl Q)).trans (Eqv.refl _)
    exact (add_congr h2 (Eqv.refl P)).trans (Eqv.refl _)
  | succ j ih =>
    intro hj
    have hPn : P.length = K + last := by rcases hP with h | h <;> omega
    obtain ⟨i1, i2, i3, i4, i5, i6⟩ := ih (by omega)
    rw [back_succ, divF_snoc]
    generalize divF Q inv last (List.replicate K 0, P) (backN K j) = s at i1 i2 i3 i4 i5 i6
    obtain ⟨k, hk⟩ : ∃ k, K - 1 - j = k := ⟨_, rfl⟩
    rw [hk]
    unfold divS
    dsimp only
    have hkl : k < s.1.length := by omega
    have hk0 : co s.1 k = 0 := i4 k (by omega)
    refine ⟨by rw [List.length_set]; exact i1, ?_, div_keeps hkl hk0 i3, ?_, ?_, ?_⟩
    · rw [at_length _ _ _ (by unfold scaleL; rw [List.length_map, hQ, i2]; omega), i2]
    · intro i hi
      rw [co_set _ _ _ _ hkl, if_neg (by omega)]
      exact i4 i (by omega)
    · intro hK i hi
      rw [co_at, if_neg (by omega), co_scale]
      by_cases hil : i = k + last
      · subst hil
        rw [Nat.add_sub_cancel_left, mul_assoc, mul_comm inv, hq, mul_one, add_self]
      · rw [i5 hK i (by omega), co_ge Q (i - k) (by omega), mul_zero, add_zero]
    · intro _
      rw [co_set _ _ _ _ hkl]
      split
      · next e =>
        by_cases hj0 : j = 0
        · subst hj0
          have h2 : co s.2 (k + last) = co P (K - 1 + last) := by
            have h3 := i3 (k + last)
            rw [co_add] at h3
            have h4 : Eqv (mulL s.1 Q) [] := by
              have hz : Eqv s.1 [] := fun i => by
                rw [co_nil]
                rcases Nat.lt_or_ge i K with h | h
                · exact i4 i (by omega)
                · exact co_ge _ _ (by omega)
              exact (mul_congr hz (Eqv.refl Q)).trans (Eqv.refl _)
            rw [h4, co_nil, zero_add] at h3
            rw [h3, ← e]
          rw [h2]
        · omega
      · next e => exact i6 (by omega)

/-- What the program's rounds come to. -/
theorem div_done {p Q : List UInt8} {inv : UInt8} {last K : Nat} (hQ : Q.length = last + 1) (hq : mulB (co Q last) inv = 1) (hinv : inv ≠ 0) (hK : K = (plainL p).length - last) {q : List UInt8} (hQq : plainL q = Q) :
    let s := divF Q inv last (List.replicate K 0, plainL p) (backN K K)
    s.1.length = K ∧ s.2.length = (plainL p).length ∧ IsQuo p q s.1 (plainL s.2) ∧ plainL s.1 = s.1 ∧ plainL (plainL s.2) = plainL s.2 := by
  obtain ⟨i1, i2, i3, _, i5, i6⟩ := div_inv (P := plainL p) hQ hq (by omega) K (Nat.le_refl _)
  dsimp only
  generalize divF Q inv last (List.replicate K 0, plainL p) (backN K K) = s at i1 i2 i3 i5 i6
  have hlen : (plainL q).length = last + 1 := by rw [hQq]; exact hQ
  refine ⟨i1, i2, ⟨?_, ?_⟩, ?_, plain_plain _⟩
  · refine (add_congr (mul_congr (Eqv.refl _) ?_) (plain_eqv _)).trans (i3.trans (plain_eqv p))
    rw [← hQq]
    exact (plain_eqv q).symm
  · rw [plain_plain, hlen]
    have : (plainL s.2).length ≤ last := (plain_le_iff _ _).2 fun i hi => by
      by_cases h0 : K = 0
      · exact co_ge _ _ (by omega)
      · exact i5 (by omega) i (by omega)
    omega
  · by_cases h0 : K = 0
    · rw [List.eq_nil_of_length_eq_zero (i1.trans h0)]
      rfl
    · refine plain_of_top _ (.inr ?_)
      rw [i1, i6 (by omega)]
      refine mul_ne _ _ ?_ hinv
      have h1 : K - 1 + last = (plainL p).length - 1 := by omega
      rw [h1, plain_eqv p]
      exact plain_top p (by intro e; rw [e] at hK; simp at hK; omega)
end Go.Proofs.YtcnjackbiimjdaaDoor
/-
  What the program's calls of layer 8 answer, over the landed code: Quo, and what the texts before say of the others. No conditions but those typed.
-/
namespace Go.Proofs.YtcnjackbiimjdaaDoor
set_option maxRecDepth 100000
open Go.RowKit Go.Shelf
set_option linter.unusedSimpArgs false
set_option linter.unusedVariables false

attribute [local go_sem] Oper.semAt_some

/-- What the program's division hands back: both plain; none, if the divisor is 0. -/
def QuoGood (p q : List UInt8) (w : World) (e : Ending) (w' : World) : Prop :=
  ∃ (a r : List UInt8) (A B : Option Addr) (n m c d : Nat), e = .returned (.tuple #[.slice A n c, .slice B m d, .int .i64 0]) ∧ Hid (a.length = n) ∧ Hid (r.length = m) ∧ n ≤ c ∧ m ≤ d ∧ Rd vB w' A a ∧ Rd vB w' B r ∧ Below w.heap.size w w' ∧ Hid (IsQuo p q a r ∧ plainL a = a ∧ plainL r = r)
def QuoBad (w : World) (e : Ending) (w' : World) : Prop :=
  ∃ (A B : Option Addr) (c d : Nat), e = .returned (.tuple #[.slice A 0 c, .slice B 0 d, .int .i64 1]) ∧ Below w.heap.size w w'
theorem quoP_bad (p q : List UInt8) (n m : Nat) (A B : Option Addr) (c d : Nat) (w : World) (HN : Hid (p.length = n)) (HM : Hid (q.length = m)) (hp : Rd vB w A p) (hq : Rd vB w B q) (hc : n ≤ c) (hd : m ≤ d) (hn : n ≤ 50000) (hm : m ≤ 50000) (HQ : Hid (plainL q = [])) :
    Calls Tryd.prog 21 #[.slice A n c, .slice B m d] w (QuoBad w) := by
  have hB0 := below_new (Below.refl _ w) (.cells #[.slice B m d] 23)
  have bQ := Boxed.new w 23 (.slice B m d)
  have hcut := cutP_any q m B d _ HM (hq.keep hB0) hd (by omega)
  have HC := Lib.hid hcut
  have bQc := bQ.cell
  clear hcut
  go_enter Tryd.func21, Tryd.ntmps21
  go_wp2_with fail
  refine HC.out.mono ?_
  rintro e w1 ⟨k2, rfl, HK2, hk2, hb1⟩
  have e2 : k2 = 0 := by
    have h2 := HK2.out
    rw [HQ.out] at h2
    exact h2.symm
  subst e2
  have bQ1 : Boxed w1 w.heap.size 23 (.slice B m d) := (hb1.block _ bQ.lt).trans bQ
  have bQ1c := bQ1.cell
  have bQ1f := bQ1.frozen
  have hB2 := (below_step hB0 hb1).setCell (p := ⟨w.heap.size, 0, none⟩) (Nat.le_refl _) (.slice B 0 d)
  clear bQ bQ1 hB0 hb1
  go_wp2_with fail
  go_ret3
  exact ⟨none, none, 0, 0, rfl, hB2⟩
theorem rd_put {α : Type} {f : α → Value} {w : World} {A : Option Addr} {l : List α} (h : Rd f w A l) {D : Nat} {o o' : Obj} (hD : w.heap[D]? = some o) (ho : o.isCells = false) : Rd f (w.putObj D o') A l := fun hn => by
  obtain ⟨b, ob, e, hc⟩ := h hn
  exact ⟨b, ob, e, fun i hi => cell_kept (hc i hi) (grownBy_putObj' w D o') (fun r e => by cases e; exact ⟨_, hD, ho⟩)⟩
/-- What a round of Quo keeps: what lay below, the iterator's own box, and that the slice it goes over is there. -/
def KpQ (n₀ Bs g K : Nat) (W W' : World) : Prop := KpB n₀ Bs W W' ∧ ((∃ l : List UInt8, l.length = K ∧ Cel W g 5 l) → ∃ l : List UInt8, l.length = K ∧ Cel W' g 5 l)
theorem KpQ.refl (n₀ Bs g K : Nat) (W : World) : KpQ n₀ Bs g K W W := ⟨KpB.refl _ _ _, id⟩
theorem KpQ.trans {n₀ Bs g K : Nat} {X Y Z : World} (h : KpQ n₀ Bs g K X Y) (k : KpQ n₀ Bs g K Y Z) : KpQ n₀ Bs g K X Z := ⟨h.1.trans k.1, fun e => k.2 (h.2 e)⟩
theorem KpQ.own {n₀ Bs g K : Nat} {w : World} (hn : n₀ ≤ w.heap.size) (hB : Bs < w.heap.size) (hg : g < w.heap.size) (W : World) (l : Nat) (o o' : Obj) (hl : w.heap.size ≤ l) (h : W.heap[l]? = some o) (h1 : o.isCells = false) (h2 : o.isWalk = false) : KpQ n₀ Bs g K W (W.putObj l o') :=
  ⟨KpB.own hn hB W l o o' hl h h1 h2, fun ⟨x, hx, L, r1, r2⟩ => ⟨x, hx, L, (World.putObj_heap_other (by omega)).trans r1, r2⟩⟩
/-- Between two rounds of Quo. -/
def DivI (w : World) (Q P : List UInt8) (iv : UInt8) (last K L0 bq bl bi be bo bs gO gL : Nat) (vq ve vo : Value) {V : Nat → UInt8 → Prop} (pre : List (Bk K V)) (W : World) : Prop :=
  ((Boxed W bq 23 vq ∧ Boxed W bl 3 (.int .i64 (last : Int)) ∧ Boxed W bi 5 (.int .u8 (iv.toNat : Int)) ∧ Boxed W be 23 ve ∧ Boxed W bo 23 vo ∧ Boxed W bs 23 vo) ∧
    Cel W gO 5 (divF Q iv last (List.replicate K 0, P) (pre.map Bk.at)).1 ∧ (0 < L0 → Cel W gL 5 (divF Q iv last (List.replicate K 0, P) (pre.map Bk.at)).2)) ∧ Below w.heap.size w W
theorem divI_own (w : World) (Q P : List UInt8) (iv : UInt8) (last K L0 bq bl bi be bo bs gO gL : Nat) (vq ve vo : Value) {V : Nat → UInt8 → Prop} (B : Nat) (hB : w.heap.size ≤ B) : OwnFrom B (DivI w Q P iv last K L0 bq bl bi be bo bs gO gL vq ve vo (V := V)) :=
  OwnFrom.and (Own.from (fun s A B row hs hg hr => by
    obtain ⟨⟨h1, h2, h3, h4, h5, h8⟩, h6, h7⟩ := hs
    exact ⟨⟨boxed_turn h1 hg hr, boxed_turn h2 hg hr, boxed_turn h3 hg hr, boxed_turn h4 hg hr, boxed_turn h5 hg hr, boxed_turn h8 hg hr⟩, cel_turn h6 hg hr, fun h0 => cel_turn (h7 h0) hg hr⟩) _) (ownFrom_below (Nat.le_refl _) hB)
set_option maxHeartbeats 4000000 in
theorem quoP_good (p q : List UInt8) (n m : Nat) (A B : Option Addr) (c d : Nat) (w : World) (HN : Hid (p.length = n)) (HM : Hid (q.length = m)) (hp : Rd vB w A p) (hq : Rd vB w B q) (hc : n ≤ c) (hd : m ≤ d) (hn : n ≤ 50000) (hm : m ≤ 50000) (HQ : Hid (plainL q ≠ [])) :
    Calls Tryd.prog 21 #[.slice A n c, .slice B m d] w (QuoGood p q w) := by
  obtain ⟨i0, hi, hz0, hz1, hz2⟩ := info_parts info_u8
  have hB0 := below_new (Below.refl _ w) (.cells #[.slice B m d] 23)
  have bQ := Boxed.new w 23 (.slice B m d)
  have hcut := cutP_any q m B d _ HM (hq.keep hB0) hd (by omega)
  have HC := Lib.hid hcut
  have bQc := bQ.cell
  clear hcut
  refine (callsIn_wide (n := 3)).1 ?_
  refine callsIn_of_wp_marks Tryd.func21 rfl trivial ?_ rfl
  simp only [Tryd.ntmps21, List.size_toArray, List.length_cons, List.length_nil, Nat.reduceAdd, Nat.reduceSub, Array.replicate_succ, Array.replicate_zero, List.push_toArray, List.append_toArray, List.nil_append, List.cons_append]
  refine wpIn_wide.2 ?_
  go_wp2_with fail
  refine HC.out.mono ?_
  rintro e w1 ⟨k2, rfl, HK2, hk2, hb1⟩
  have bQ1 : Boxed w1 w.heap.size 23 (.slice B m d) := (hb1.block _ bQ.lt).trans bQ
  have bQ1c := bQ1.cell
  have bQ1f := bQ1.frozen
  have hB1 := (below_step hB0 hb1).setCell (p := ⟨w.heap.size, 0, none⟩) (Nat.le_refl _) (.slice B k2 d)
  have bQ2 := bQ1.set (.slice B k2 d)
  have bQ2c := bQ2.cell
  obtain ⟨j2, rfl⟩ : ∃ j, k2 = j + 1 := ⟨k2 - 1, by have h2 := HK2.out; have := List.length_pos_iff.2 HQ.out; omega⟩
  have z2 : (((j2 + 1 : Nat) : Int) == 0) = false := beq_eq_false_iff_ne.2 (by omega)
  go_upto_region 4 with fail
  have hrQ := ((hq.keep hB0).plain).keep hb1
  have hrQ2 : Rd vB (w1.setCell ⟨w.heap.size, 0, none⟩ (.slice B (j2 + 1) d)) B (plainL q) := fun hn => by
    obtain ⟨b, o, e1, hcell⟩ := hrQ hn
    have hoff := hq.plain.off hn ⟨b, o, none⟩ e1
    exact ⟨b, o, e1, fun i hi => (World.cell?_setCell_other _ _ _ _ (by intro e; injection e with e2; dsimp only at hoff; omega)).trans (hcell i hi)⟩
  have hsz2 : (w1.setCell ⟨w.heap.size, 0, none⟩ (.slice B (j2 + 1) d)).heap.size = w1.heap.size := by simp
  have hsz1 : w.heap.size + 1 ≤ w1.heap.size := by have := hb1.size; simpa using this
  generalize w1.setCell ⟨w.heap.size, 0, none⟩ (.slice B (j2 + 1) d) = W2 at hB1 bQ2 bQ2c hrQ2 hsz2 ⊢
  have HQl : Hid ((plainL q).length = j2 + 1) := HK2.out
  clear bQ1 bQ1c bQ1f hB0 hb1 hrQ bQ bQc z2
  obtain ⟨y, hy⟩ : ∃ y, co (plainL q) j2 = y := ⟨_, rfl⟩
  have hy0 : y ≠ 0 := by
    have := plain_top q HQ.out
    rw [HQl.out, Nat.add_sub_cancel, plain_eqv q j2 |>.symm, hy] at this
    exact this
  have hj2 : j2 < (plainL q).length := by rw [HQl.out]; omega
  obtain ⟨b, ob, rfl, hb, hcell⟩ := hrQ2.at hj2
  have hcy := hcell j2 hj2
  rw [← co_lt _ j2 hj2, hy] at hcy
  unfold vB at hcy
  have HI : Hid (mulB (co (plainL q) j2) (invB y) = 1 ∧ invB y ≠ 0) := ⟨by rw [hy]; exact mul_inv y hy0, inv_ne y hy0⟩
  have hinv := fun W => gfinv_any y W hy0
  generalize invB y = iv at HI hinv
  have HInv := Lib.hid hinv
  have j20 : (0 : Int) ≤ (j2 : Int) := by omega
  have j21 : (j2 : Int) < (j2 : Int) + 1 := by omega
  clear hcell hj2 hy hy0 hinv
  have bL3 := Boxed.new W2 3 (.int .i64 (j2 : Int))
  have bL3c := bL3.cell
  have bQ3 := bQ2.alloc (.cells #[.int .i64 (j2 : Int)] 3)
  have bQ3c := bQ3.cell
  have hcy3 : (W2.alloc (.cells #[.int .i64 (j2 : Int)] 3)).cell? ⟨b, ob + j2, none⟩ = some (.int .u8 (y.toNat : Int)) := ((below_new (Below.refl _ W2) _).cell (p := ⟨b, ob + j2, none⟩) hb).trans hcy
  go_upto_region 6 with (refine (HInv.out _).mono ?_; rintro e wi ⟨rfl, rfl⟩)
  have bI4 := Boxed.new (W2.alloc (.cells #[.int .i64 (j2 : Int)] 3)) 5 (.int .u8 (iv.toNat : Int))
  have bL4 := bL3.alloc (.cells #[.int .u8 (iv.toNat : Int)] 5)
  have bQ4 := bQ3.alloc (.cells #[.int .u8 (iv.toNat : Int)] 5)
  have hB4 := below_new (below_new hB1 (.cells #[.int .i64 (j2 : Int)] 3)) (.cells #[.int .u8 (iv.toNat : Int)] 5)
  have hrQ4 := (hrQ2.keep (below_new (Below.refl _ _) (.cells #[.int .i64 (j2 : Int)] 3))).keep (below_new (Below.refl _ _) (.cells #[.int .u8 (iv.toNat : Int)] 5))
  have hsz4 : ((W2.alloc (.cells #[.int .i64 (j2 : Int)] 3)).alloc (.cells #[.int .u8 (iv.toNat : Int)] 5)).heap.size = w1.heap.size + 2 := by simp [hsz2]
  rw [World.size_alloc, hsz2] at bI4
  rw [hsz2] at bL4
  generalize (W2.alloc (.cells #[.int .i64 (j2 : Int)] 3)).alloc (.cells #[.int .u8 (iv.toNat : Int)] 5) = W4 at bI4 bL4 bQ4 hB4 hrQ4 hsz4 ⊢
  clear bL3 bL3c bQ3 bQ3c hcy3 hcy bQ2 bQ2c hB1 hrQ2 hsz2 HInv hb
  have hPl := plainP_own p n A c W4 HN (hp.keep hB4) hc (by omega)
  have HPl := Lib.hid hPl
  clear hPl
  obtain ⟨L0, hL0⟩ : ∃ L0, (plainL p).length = L0 := ⟨_, rfl⟩
  have HL0 := Lib.hid hL0
  have hL0n : L0 ≤ 50000 := by have := plain_len p; rw [hL0, HN.out] at this; omega
  clear hL0
  go_upto_region 7 with (refine HPl.out.mono ?_; rintro e W5 ⟨v5, rfl, ho5, hb5⟩; rw [HL0.out] at ho5; obtain ⟨A5, c5, rfl, hc5⟩ := own_form ho5)
  have hsz5 : w1.heap.size + 2 ≤ W5.heap.size := by have := hb5.size; omega
  have bI5 : Boxed W5 (w1.heap.size + 1) 5 (.int .u8 (iv.toNat : Int)) := (hb5.block _ bI4.lt).trans bI4
  have bL5 : Boxed W5 w1.heap.size 3 (.int .i64 (j2 : Int)) := (hb5.block _ bL4.lt).trans bL4
  have bQ5 : Boxed W5 w.heap.size 23 (.slice (some ⟨b, ob, none⟩) (j2 + 1) d) := (hb5.block _ bQ4.lt).trans bQ4
  have hB5 := below_step hB4 hb5
  have hrQ5 := hrQ4.keep hb5
  have bE6 := Boxed.new W5 23 (.slice A5 L0 c5)
  have bI6 := bI5.alloc (.cells #[.slice A5 L0 c5] 23)
  have bL6 := bL5.alloc (.cells #[.slice A5 L0 c5] 23)
  have bQ6 := bQ5.alloc (.cells #[.slice A5 L0 c5] 23)
  have hrQ6 := hrQ5.keep (below_new (Below.refl _ _) (.cells #[.slice A5 L0 c5] 23))
  have hB6 := below_new hB5 (.cells #[.slice A5 L0 c5] 23)
  have ho6 := ownsRow_later ho5 (below_new (Below.refl _ _) (.cells #[.slice A5 L0 c5] 23))
  have hsz6 : (W5.alloc (.cells #[.slice A5 L0 c5] 23)).heap.size = W5.heap.size + 1 := by simp
  have hlt5 : ∀ g, (Value.slice A5 L0 c5).ownBlock = some g → W4.heap.size ≤ g ∧ g < W5.heap.size := fun g hg => ho5.lt g hg
  generalize W5.alloc (.cells #[.slice A5 L0 c5] 23) = W6 at bE6 bI6 bL6 bQ6 hrQ6 hB6 ho6 hsz6 ⊢
  rw [hsz4] at hlt5
  clear bI4 bL4 bQ4 hB4 hrQ4 hb5 ho5 bI5 bL5 bQ5 hB5 hrQ5 HPl
  obtain ⟨Kn, hK⟩ : ∃ Kn, Kn = L0 - j2 := ⟨_, rfl⟩
  have q0 : (if (L0 : Int) - (j2 : Int) < 0 then (0 : Int) else (L0 : Int) - (j2 : Int)) = (Kn : Int) := by rw [hK]; split <;> omega
  have q1 : (if (L0 : Int) < (j2 : Int) then (0 : Int) else (L0 : Int) - (j2 : Int)) = (Kn : Int) := by rw [hK]; split <;> omega
  have q2 : (if L0 < j2 then (0 : Int) else (L0 : Int) - (j2 : Int)) = (Kn : Int) := by rw [hK]; split <;> omega
  have hKn : Kn ≤ 50000 := by omega
  have HK := Lib.hid hK
  clear hK
  have bE6c := bE6.cell
  have bL6c := bL6.cell
  go_upto_region 8 with (at_make; refine wpList_make_full _ rfl _ _ 23 rfl W6.heap.size 5 i0 (.int .u8 0) 1 Tryd.underlying23 hi hz0 hz1 .i64 .i64 _ _ Kn rfl rfl rfl rfl (by rw [hz2]; omega) (by unfold maxLen; omega) (Nat.le_refl _) ?_; intro W7 hown7 hgrow7)
  rw [Nat.mul_one, show (Value.int .u8 0).cells = #[.int .u8 0] from rfl, toList_madeCells_one, zeros_map] at hown7
  obtain ⟨hcO7, _, _⟩ := cel_some hown7 List.length_replicate
  have hb7 : Below W6.heap.size W6 W7 := (Below.refl _ _).grown hgrow7 (Nat.le_refl _) (by simp)
  obtain ⟨gL, hgL⟩ : ∃ gL, 0 < L0 → A5 = some ⟨gL, 0, none⟩ ∧ w1.heap.size + 2 ≤ gL ∧ gL < W5.heap.size ∧ Cel W7 gL 5 (plainL p) := by
    by_cases h0 : 0 < L0
    · obtain ⟨g, hg, _, hcel⟩ := cel_of_own ho6 HL0.out h0
      have := hlt5 g (by rw [hg]; rfl)
      exact ⟨g, fun _ => ⟨hg, this.1, this.2, hcel.later hb7⟩⟩
    · exact ⟨0, fun h => absurd h h0⟩
  have hsz7 : W5.heap.size + 2 ≤ W7.heap.size := by have := hcO7.lt; omega
  have bE7 : Boxed W7 W5.heap.size 23 (.slice A5 L0 c5) := (hb7.block _ bE6.lt).trans bE6
  have bI7 : Boxed W7 (w1.heap.size + 1) 5 (.int .u8 (iv.toNat : Int)) := (hb7.block _ bI6.lt).trans bI6
  have bL7 : Boxed W7 w1.heap.size 3 (.int .i64 (j2 : Int)) := (hb7.block _ bL6.lt).trans bL6
  have bQ7 : Boxed W7 w.heap.size 23 (.slice (some ⟨b, ob, none⟩) (j2 + 1) d) := (hb7.block _ bQ6.lt).trans bQ6
  have hB7 := below_step hB6 hb7
  rw [hsz6] at hcO7
  clear hown7 hgrow7 hb7 bE6 bI6 bL6 bQ6 hrQ6 hB6 ho6 hsz6 hlt5 bE6c bL6c q0 q1 q2 hsz4
  have bO8 := Boxed.new W7 23 (.slice (some ⟨W5.heap.size + 1, 0, none⟩) Kn Kn)
  have bE8 := bE7.alloc (.cells #[.slice (some ⟨W5.heap.size + 1, 0, none⟩) Kn Kn] 23)
  have bI8 := bI7.alloc (.cells #[.slice (some ⟨W5.heap.size + 1, 0, none⟩) Kn Kn] 23)
  have bL8 := bL7.alloc (.cells #[.slice (some ⟨W5.heap.size + 1, 0, none⟩) Kn Kn] 23)
  have bQ8 := bQ7.alloc (.cells #[.slice (some ⟨W5.heap.size + 1, 0, none⟩) Kn Kn] 23)
  have cO8 := hcO7.later (below_new (Below.refl _ W7) (.cells #[.slice (some ⟨W5.heap.size + 1, 0, none⟩) Kn Kn] 23))
  have hgL8 : 0 < L0 → A5 = some ⟨gL, 0, none⟩ ∧ w1.heap.size + 2 ≤ gL ∧ gL < W5.heap.size ∧ Cel (W7.alloc (.cells #[.slice (some ⟨W5.heap.size + 1, 0, none⟩) Kn Kn] 23)) gL 5 (plainL p) := fun h =>
    ⟨(hgL h).1, (hgL h).2.1, (hgL h).2.2.1, (hgL h).2.2.2.later (below_new (Below.refl _ W7) _)⟩
  have hB8 := below_new hB7 (.cells #[.slice (some ⟨W5.heap.size + 1, 0, none⟩) Kn Kn] 23)
  have hsz8 : (W7.alloc (.cells #[.slice (some ⟨W5.heap.size + 1, 0, none⟩) Kn Kn] 23)).heap.size = W7.heap.size + 1 := by simp
  generalize W7.alloc (.cells #[.slice (some ⟨W5.heap.size + 1, 0, none⟩) Kn Kn] 23) = W8 at bO8 bE8 bI8 bL8 bQ8 cO8 hgL8 hB8 hsz8 ⊢
  clear hcO7 hgL bE7 bI7 bL7 bQ7 hB7
  have bO8c := bO8.cell
  go_wp2_with (go_at_call 47; refine (backward_any _ _ _ _).mono ?_; rintro e w' ⟨rfl, rfl⟩)
  refine (wpIn_wide (n := 3)).1 ?_
  have bS9 := Boxed.new W8 23 (.slice (some ⟨W5.heap.size + 1, 0, none⟩) Kn Kn)
  rw [hsz8] at bS9
  have bO9 := bO8.alloc (.cells #[.slice (some ⟨W5.heap.size + 1, 0, none⟩) Kn Kn] 23)
  have bE9 := bE8.alloc (.cells #[.slice (some ⟨W5.heap.size + 1, 0, none⟩) Kn Kn] 23)
  have bI9 := bI8.alloc (.cells #[.slice (some ⟨W5.heap.size + 1, 0, none⟩) Kn Kn] 23)
  have bL9 := bL8.alloc (.cells #[.slice (some ⟨W5.heap.size + 1, 0, none⟩) Kn Kn] 23)
  have bQ9 := bQ8.alloc (.cells #[.slice (some ⟨W5.heap.size + 1, 0, none⟩) Kn Kn] 23)
  have cO9 := cO8.later (below_new (Below.refl _ W8) (.cells #[.slice (some ⟨W5.heap.size + 1, 0, none⟩) Kn Kn] 23))
  have hgL9 : 0 < L0 → A5 = some ⟨gL, 0, none⟩ ∧ w1.heap.size + 2 ≤ gL ∧ gL < W5.heap.size ∧ Cel (W8.alloc (.cells #[.slice (some ⟨W5.heap.size + 1, 0, none⟩) Kn Kn] 23)) gL 5 (plainL p) := fun h =>
    ⟨(hgL8 h).1, (hgL8 h).2.1, (hgL8 h).2.2.1, (hgL8 h).2.2.2.later (below_new (Below.refl _ W8) _)⟩
  have hB9 := below_new hB8 (.cells #[.slice (some ⟨W5.heap.size + 1, 0, none⟩) Kn Kn] 23)
  have hsz9 : (W8.alloc (.cells #[.slice (some ⟨W5.heap.size + 1, 0, none⟩) Kn Kn] 23)).heap.size = W7.heap.size + 2 := by simp [hsz8]
  generalize W8.alloc (.cells #[.slice (some ⟨W5.heap.size + 1, 0, none⟩) Kn Kn] 23) = W9 at bS9 bO9 bE9 bI9 bL9 bQ9 cO9 hgL9 hB9 hsz9 ⊢
  clear bO8 bE8 bI8 bL8 bQ8 cO8 hgL8 hB8 hsz8 bO8c
  have hKL : Kn = 0 ∨ L0 = Kn + j2 := by have := HK.out; omega
  have hgLn : 0 < L0 → gL < W5.heap.size := fun h => (hgL9 h).2.2.1
  refine wpIn_rangeFunc_ownG rfl (by omega) (gf := 64) (lb := #[.pointer (some ⟨W7.heap.size + 1, 0, none⟩)]) rfl trivial (enters_of Tryd.func64 (by kernel_rfl) rfl)
    (back_stops Fence.wide _ trivial rfl (by omega) (W7.heap.size + 1) Kn Kn (some ⟨W5.heap.size + 1, 0, none⟩) (fun _ _ => True) (KpQ w.heap.size (W7.heap.size + 1) (W5.heap.size + 1) Kn) (by omega) W9 (KpQ.refl _ _ _ _) (fun _ _ _ => KpQ.trans)
      (fun W hW W' hK => ⟨by
        have h1 : W'.heap[W7.heap.size + 1]? = W9.heap[W7.heap.size + 1]? := hK.1.2.trans (hW.block _ (by omega))
        exact Boxed.cell (t := 23) (h1.trans bS9), by
        obtain ⟨l, hl, hc⟩ := hK.2 ⟨_, List.length_replicate, cO9.later hW⟩
        exact ⟨l, hl, hc.rd, fun _ _ => trivial⟩⟩))
    (fun h k => KpQ.trans h k) (KpQ.own (by omega) (by omega) (by omega)) (Below.refl _ _) (fun _ => rfl)
    (DivI w (plainL q) (plainL p) iv j2 Kn L0 w.heap.size w1.heap.size (w1.heap.size + 1) W5.heap.size W7.heap.size (W7.heap.size + 1) (W5.heap.size + 1) gL (.slice (some ⟨b, ob, none⟩) (j2 + 1) d) (.slice A5 L0 c5) (.slice (some ⟨W5.heap.size + 1, 0, none⟩) Kn Kn)) (fun _ _ _ => False)
    (divI_own _ _ _ _ _ _ _ _ _ _ _ _ _ _ _ _ _ _ _ (by omega)) (fun _ _ _ _ _ hs _ _ => hs)
    ⟨⟨⟨bQ9, bL9, bI9, bE9, bO9, bS9⟩, cO9, fun h => (hgL9 h).2.2.2⟩, hB9⟩
    (fun x => { tmps := #[.slice A n c, .slice (some ⟨b, ob, none⟩) m d, undef, .pointer (some ⟨w.heap.size, 0, none⟩), .slice none 0 0, .slice none 0 0, .int .i64 0, .pointer (some ⟨w1.heap.size, 0, none⟩), .pointer (some ⟨w1.heap.size + 1, 0, none⟩), .int .i64 0, .pointer (some ⟨W5.heap.size, 0, none⟩), .pointer (some ⟨W7.heap.size, 0, none⟩), .int .i64 (x.at : Int), .slice (some ⟨b, ob, none⟩) m d, .slice (some ⟨b, ob, none⟩) (j2 + 1) d, .slice (some ⟨b, ob, none⟩) (j2 + 1) d, .int .i64 ((j2 : Int) + 1), .bool false, .slice (some ⟨b, ob, none⟩) (j2 + 1) d, .int .i64 ((j2 : Int) + 1), .int .i64 (j2 : Int), .tuple #[.int .u8 (iv.toNat : Int), .int .i64 0], .slice (some ⟨b, ob, none⟩) (j2 + 1) d, .int .i64 (j2 : Int), .pointer (some ⟨b, ob + j2, none⟩), .int .u8 (y.toNat : Int), .tuple #[.int .u8 (iv.toNat : Int), .int .i64 0], .int .u8 (iv.toNat : Int), .int .i64 0, .slice A n c, .slice A5 L0 c5, .slice A5 L0 c5, .int .i64 (L0 : Int), .int .i64 (j2 : Int), .int .i64 ((L0 : Int) - (j2 : Int)), .int .i64 (Kn : Int), .slice (some ⟨W5.heap.size + 1, 0, none⟩) Kn Kn, .slice (some ⟨W5.heap.size + 1, 0, none⟩) Kn Kn, .func (.func 64) #[] #[.pointer (some ⟨W7.heap.size + 1, 0, none⟩)], .int .i64 (x.at : Int), .int .u8 (x.val.toNat : Int), undef, undef, undef, undef, undef, undef, undef, undef, undef, undef, undef, undef, undef, undef, undef, undef, undef, undef, undef, undef, undef, undef, undef], defers := [] }) ?assign ?body ?done ?stop
  case assign =>
    intro l x W Kn hK
    unfold Bk.enc
    gi_wp2
    exact hK
  case body =>
    rintro l pre x W ⟨⟨⟨hq1, hl1, hi1, he1, ho1, hb1⟩, hO, hL⟩, hB⟩ hlen
    have hkK := x.lt
    have hLn : L0 = Kn + j2 := by omega
    have hLp : 0 < L0 := by omega
    obtain ⟨rfl, hg1, hg2, _⟩ := hgL9 hLp
    have hcL := hL hLp
    obtain ⟨s1, s2⟩ := divF_length (plainL q) iv j2 Kn L0 HQl.out (by omega) (pre.map Bk.at) (List.replicate Kn 0, plainL p) List.length_replicate HL0.out (fun k hk => by obtain ⟨x, _, rfl⟩ := List.mem_map.1 hk; exact x.lt)
    have hs := divF_snoc (plainL q) iv j2 (List.replicate Kn 0, plainL p) (pre.map Bk.at) x.at
    have HP : Hid ((pre ++ [x]).map Bk.at = pre.map Bk.at ++ [x.at]) := by unfold Hid; rw [List.map_append]; rfl
    generalize hk : x.at = k at hkK hs HP ⊢
    generalize divF (plainL q) iv j2 (List.replicate Kn 0, plainL p) (pre.map Bk.at) = s at hO hcL s1 s2 hs
    unfold divS at hs
    have hcx := hcL.get (k + j2) (by omega)
    have hcO := hO.get k (by omega)
    have hfO := hO.frozen k
    generalize co s.2 (k + j2) = z at hcx hs
    have hM : ∀ W, Calls Tryd.prog 48 #[.int .u8 (z.toNat : Int), .int .u8 (iv.toNat : Int)] W fun e w'' => e = .returned (.int .u8 ((mulB z iv).toNat : Int)) ∧ w'' = W := fun W => (gfmul_any z iv W).mono fun _ _ h => ⟨h.1, h.2.symm⟩
    generalize mulB z iv = tt at hM hs
    have hO1 := hO.drew.set k tt
    have hOn1 : Only (W5.heap.size + 1) W (W.drew.setCell ⟨W5.heap.size + 1, k, none⟩ (.int .u8 (tt.toNat : Int))) := (Only.refl _ W).drew.setCell k _
    have hcL1 := hcL.only hOn1 (by omega)
    have hq2 := Boxed.only hq1 hOn1 (by omega)
    have hl2 := Boxed.only hl1 hOn1 (by omega)
    have hi2 := Boxed.only hi1 hOn1 (by omega)
    have he2 := Boxed.only he1 hOn1 (by omega)
    have ho2 := Boxed.only ho1 hOn1 (by omega)
    have hb2 := Boxed.only hb1 hOn1 (by omega)
    have hkeep1 := hOn1.keeps hO W9.heap.size
    have hB1 : Below w.heap.size W (W.drew.setCell ⟨W5.heap.size + 1, k, none⟩ (.int .u8 (tt.toNat : Int))) := hOn1.below.mono (by omega)
    have hbs1 : (W.drew.setCell ⟨W5.heap.size + 1, k, none⟩ (.int .u8 (tt.toNat : Int))).heap[W7.heap.size + 1]? = W.heap[W7.heap.size + 1]? := by
      exact Below.heap_setCell W.drew ⟨W5.heap.size + 1, k, none⟩ _ _ (by dsimp only; omega)
    have i0' : (0 : Int) ≤ (k : Int) := by omega
    have i1' : (k : Int) < (Kn : Int) := by omega
    have i2' : (0 : Int) ≤ (k : Int) + (j2 : Int) := by omega
    have i3' : (k : Int) + (j2 : Int) < (L0 : Int) := by omega
    have i4' : IntKind.i64.wrap ((k : Int) + (j2 : Int)) = (k : Int) + (j2 : Int) := by rw [IntKind.wrap_i64]; omega
    have i5' : (k : Int) + (j2 : Int) = ((k + j2 : Nat) : Int) := by omega
    have ho1c : W.drew.cell? ⟨W7.heap.size, 0, none⟩ = _ := ho1.cell
    have he1c : W.drew.cell? ⟨W5.heap.size, 0, none⟩ = _ := he1.cell
    have hl1c : W.drew.cell? ⟨w1.heap.size, 0, none⟩ = _ := hl1.cell
    have hi1c : W.drew.cell? ⟨w1.heap.size + 1, 0, none⟩ = _ := hi1.cell
    have e5 : ((k : Int) + (j2 : Int)).toNat = k + j2 := by omega
    have hcx' : W.drew.cell? ⟨gL, ((k : Int) + (j2 : Int)).toNat, none⟩ = some (.int .u8 (z.toNat : Int)) := by rw [e5]; exact hcx
    have hcO' : W.drew.cell? ⟨W5.heap.size + 1, k, none⟩ = _ := hcO
    have hfO' : W.drew.frozen? ⟨W5.heap.size + 1, k, none⟩ = false := hfO
    have HMu := Lib.hid hM
    have HLn := Lib.hid hLn
    clear e5 hLn hM i5' hO hcL hL hq1 hl1 hi1 he1 ho1 hb1 hcx hcO hfO hlen bS9 bO9 bE9 bI9 bL9 bQ9 cO9 hgL9
    gi_wp2
    refine wpIn_region_still_tail 11 (by kernel_rfl) (by kernel_rfl) (by rfl) ?_
    generalize hWd : W.drew = Wd at *
    simp only [List.take_succ_cons, List.take_zero, List.drop_succ_cons, List.drop_zero]
    iterate 9 still_step
    still_call (HMu.out _)
    still_step
    refine wpStill_nil ?_
    clear ho1c he1c hl1c hi1c hcx' HMu
    gi_wp2
    have hcOt := hO1.get k (by rw [List.length_set]; omega)
    rw [co_set _ _ _ _ (by omega), if_pos rfl] at hcOt
    generalize Wd.setCell ⟨W5.heap.size + 1, k, none⟩ (.int .u8 (tt.toNat : Int)) = W1' at hO1 hOn1 hcL1 hq2 hl2 hi2 he2 ho2 hb2 hkeep1 hB1 hbs1 hcOt ⊢
    have hrQ1 : Rd vB W1'.drew (some ⟨b, ob, none⟩) (plainL q) := hq.plain.keep (hB.trans hB1).drew
    have hAp : plainL q ≠ [] → ∀ ad, (some (⟨b, ob, none⟩ : Addr)) = some ad → ad.block ≠ gL := fun hn ad ha => by
      have := hq.plain.off hn ad ha
      omega
    have hA := addtimes_any s.2 (plainL q) tt gL k (L0 - k) (c5 - k) (j2 + 1) (some ⟨b, ob, none⟩) d W1'.drew HQl hcL1.drew hrQ1 hAp (by have := HLn.out; omega) (by omega) (by omega) (by omega)
    have hkc : k < c5 := by omega
    have hcut := fun W => run_cut_at (P := Tryd.prog) 23 5 Tryd.underlying23 size_uint8 gL 0 L0 c5 k (by omega) hc5 hkc W
    simp only [Nat.zero_add] at hcut
    have ho2c : W1'.drew.cell? ⟨W7.heap.size, 0, none⟩ = _ := Boxed.cell ho2
    have he2c : W1'.drew.cell? ⟨W5.heap.size, 0, none⟩ = _ := Boxed.cell he2
    have hq2c : W1'.drew.cell? ⟨w.heap.size, 0, none⟩ = _ := Boxed.cell hq2
    have hcOt' : W1'.drew.cell? ⟨W5.heap.size + 1, k, none⟩ = some (.int .u8 (tt.toNat : Int)) := hcOt
    have HA := Lib.hid hA
    clear hA hcOt hrQ1
    refine wpIn_region_still_tail 8 (by kernel_rfl) (by kernel_rfl) (by rfl) ?_
    have hdr : Only gL W1' W1'.drew := (Only.refl _ _).drew
    have hbs2 : W1'.drew.heap[W7.heap.size + 1]? = W1'.heap[W7.heap.size + 1]? := rfl
    generalize W1'.drew = W2' at ho2c he2c hq2c hcOt' HA hdr hbs2 ⊢
    simp only [List.take_succ_cons, List.take_zero, List.drop_succ_cons, List.drop_zero]
    iterate 8 still_step
    refine wpStill_nil ?_
    have HS : Hid (divF (plainL q) iv j2 (List.replicate Kn 0, plainL p) ((pre ++ [x]).map Bk.at) = (s.1.set k tt, atL s.2 k (scaleL tt (plainL q)))) := by
      unfold Hid
      rw [HP.out, hs]
    gi_wp2_with (refine ⟨trivial, ?_⟩; gi_at_call 49; refine (CallsIn.inRound l (callsIn_wide.2 HA.out)).mono ?_; rintro e W3' ⟨⟨v3, rfl⟩, hc3, ho3⟩)
    have hOn3 := hdr.trans ho3
    have hcO3 := hO1.only hOn3 (by omega)
    refine ⟨hkeep1.trans (hOn3.keeps hcL1 _), ⟨⟨hB1.trans (hOn3.below.mono (by omega)), ((hOn3.other _ (by omega) (Boxed.lt hb2)).trans hbs1)⟩, fun _ => ⟨_, by rw [List.length_set]; exact s1, hcO3⟩⟩,
      ⟨⟨Boxed.only hq2 hOn3 (by omega), Boxed.only hl2 hOn3 (by omega), Boxed.only hi2 hOn3 (by omega), Boxed.only he2 hOn3 (by omega), Boxed.only ho2 hOn3 (by omega), Boxed.only hb2 hOn3 (by omega)⟩, ?_, fun _ => ?_⟩, hB.trans (hB1.trans (hOn3.below.mono (by omega)))⟩
    · rw [HS.out]; exact hcO3
    · rw [HS.out]; exact hc3
  case done =>
    rintro D xs W hD hS ⟨⟨⟨hq1, hl1, hi1, he1, ho1, _⟩, hO, hL⟩, hB⟩ hDf
    have hS' : xs.map Bk.at = backN Kn Kn := hS
    rw [hS'] at hO hL
    have hdone := div_done (p := p) (q := q) (inv := iv) HQl.out HI.out.1 HI.out.2 (K := Kn) (by rw [HL0.out]; exact HK.out) rfl
    dsimp only at hdone
    generalize divF (plainL q) iv j2 (List.replicate Kn 0, plainL p) (backN Kn Kn) = s at hO hL hdone
    obtain ⟨s1, s2, hQuo, hp1, hp2⟩ := hdone
    have hrO := hO.rd
    have hrL : Rd vB W A5 s.2 := by
      by_cases h0 : 0 < L0
      · obtain ⟨rfl, _⟩ := hgL9 h0
        exact (hL h0).rd
      · intro hn
        exact absurd (List.eq_nil_of_length_eq_zero (by rw [s2, HL0.out]; omega)) hn
    have hLl : Hid (s.2.length = L0) := s2.trans HL0.out
    have HQR : Hid (IsQuo p q s.1 (plainL s.2) ∧ plainL s.1 = s.1 ∧ plainL (plainL s.2) = plainL s.2) := ⟨hQuo, hp1, hp2⟩
    have HS1 : Hid (s.1.length = Kn) := s1
    have ho1c := ho1.cell
    have he1c := he1.cell
    clear hq1 hl1 hi1 hO hL hQuo hp1 hp2 s1 s2 bS9 bO9 bE9 bI9 bL9 bQ9 cO9 hS hS'
    gi_wp2
    have hcO : ∀ W', Below W.heap.size W W' → W'.cell? ⟨W7.heap.size, 0, none⟩ = some (.slice (some ⟨W5.heap.size + 1, 0, none⟩) Kn Kn) := fun W' h => Boxed.cell ((h.block _ (Boxed.lt ho1)).trans ho1)
    have hcE : ∀ W', Below W.heap.size W W' → W'.cell? ⟨W5.heap.size, 0, none⟩ = some (.slice A5 L0 c5) := fun W' h => Boxed.cell ((h.block _ (Boxed.lt he1)).trans he1)
    have hDl : D < W.heap.size := (Array.getElem?_eq_some_iff.1 hDf).1
    clear ho1c he1c ho1 he1
    go_upto_region 12 with fail
    have hBase : Below W.heap.size W W.drew := (Below.refl _ _).drew
    have hrL' := hrL.keep hBase
    refine wp_region_plan (.step 0 false (.step 1 false (.step 2 true (.step 3 false (.step 4 false (.step 5 false (.nil))))))) (by kernel_rfl) (by kernel_rfl) (by rfl) (by kernel_rfl) ?_
    iterate 2 (refine plan_read rfl (by rfl) (v := ?_) ?_ ?_; rotate_left 1; (intro W hW; have hW0 := below_step hBase hW; (try dsimp only at hW); go_simp <;> with_reducible rfl); simp only [List.getElem_toArray, List.getElem_cons_zero, List.getElem_cons_succ, Act.put, List.setIfInBounds_toArray, List.set_cons_zero, List.set_cons_succ])
    (refine plan_make rfl (by rfl) (fun K hK => ?_); go_simp; (refine (cutP_any s.2 L0 A5 c5 _ hLl hrL' hc5 (by omega)).mono ?_; rintro e w2 ⟨k5, rfl, HK5, hk5, hbx⟩); refine hK.out _ _ hbx ?_; clear hK K; replace hBase := below_step hBase hbx)
    iterate 3 (refine plan_read rfl (by rfl) (v := ?_) ?_ ?_; rotate_left 1; (intro W hW; have hW0 := below_step hBase hW; (try dsimp only at hW); go_simp <;> with_reducible rfl); simp only [List.getElem_toArray, List.getElem_cons_zero, List.getElem_cons_succ, Act.put, List.setIfInBounds_toArray, List.set_cons_zero, List.set_cons_succ])
    refine plan_done ?_
    clear hcO hcE
    go_wp2_with fail
    have hbw2 : Below W.heap.size W w2 := hBase
    have hDf2 : w2.heap[D]? = some (.deferred (some [])) := (hbw2.block D hDl).trans hDf
    refine ⟨by simp, .inl ⟨_, _, rfl, run_takeDeferred hDf2, ?_⟩⟩
    refine ⟨_, results_tmp3 rfl _ _ _, s.1, plainL s.2, some ⟨W5.heap.size + 1, 0, none⟩, A5, Kn, k5, Kn, c5, rfl, HS1, HK5, Nat.le_refl _, by omega, rd_put (hrO.keep hbw2) hDf2 rfl, rd_put ((hrL.keep hbw2).plain) hDf2 rfl, ?_, HQR⟩
    exact (hB.trans (hbw2.mono hB.size)).trans (belowK_b (w := w) (Nat.le_refl _) w2 D _ _ (by omega) hDf2 rfl rfl)
  case stop =>
    rintro D c pre W _ _ h _
    exact h.elim
theorem quo_same {p q a r b s : List UInt8} (h : IsQuo p q a r ∧ plainL a = a ∧ plainL r = r) (g : IsQuo p q b s ∧ plainL b = b ∧ plainL s = s) : a = b ∧ r = s := by
  obtain ⟨e1, e2⟩ := quo_unique h.1 g.1
  exact ⟨by rw [← h.2.1, ← g.2.1]; exact plain_congr e1, by rw [← h.2.2, ← g.2.2]; exact plain_congr e2⟩
end Go.Proofs.YtcnjackbiimjdaaDoor
/-
  What slices.Reverse leaves at a slice of bytes that lies at the beginning of a block of the call's own: the same bytes, the last one first. Conditions: a bound on the length, as typed.
-/
namespace Go.Proofs.YtcnjackbiimjdaaDoor
set_option maxRecDepth 100000
open Go.RowKit
set_option linter.unusedSimpArgs false
set_option linter.unusedVariables false

/-- Turned as far as i places from both ends. -/
def RevT (l T : List UInt8) (i : Nat) : Prop := T.length = l.length ∧ ∀ k, k < l.length → co T k = if k < i ∨ l.length ≤ k + i then co l (l.length - 1 - k) else co l k
theorem RevT.zero (l : List UInt8) : RevT l l 0 := ⟨rfl, fun k hk => by rw [if_neg (by omega)]⟩
theorem RevT.next {l T : List UInt8} {i : Nat} (h : RevT l T i) (hi : 2 * i + 1 < l.length) : RevT l ((T.set i (co T (l.length - 1 - i))).set (l.length - 1 - i) (co T i)) (i + 1) := by
  refine ⟨by rw [List.length_set, List.length_set]; exact h.1, fun k hk => ?_⟩
  have h1 := h.1
  rw [co_set _ _ _ _ (by rw [List.length_set]; omega), co_set _ _ _ _ (by omega)]
  have hi' := h.2 i (by omega)
  have hj' := h.2 (l.length - 1 - i) (by omega)
  rw [if_neg (by omega)] at hi' hj'
  by_cases e1 : k = l.length - 1 - i
  · rw [if_pos e1, if_pos (by omega), hi']
    congr 1
    omega
  · rw [if_neg e1]
    by_cases e2 : k = i
    · rw [if_pos e2, if_pos (by omega), hj']
      congr 1
      omega
    · rw [if_neg e2, h.2 k hk]
      by_cases e3 : k < i ∨ l.length ≤ k + i
      · rw [if_pos e3, if_pos (by omega)]
      · rw [if_neg e3, if_neg (by omega)]
theorem RevT.done {l T : List UInt8} {i : Nat} (h : RevT l T i) (hi : l.length ≤ 2 * i + 1) : T = l.reverse := by
  refine co_ext (by rw [h.1, List.length_reverse]) (fun k hk => ?_)
  rw [h.1] at hk
  rw [h.2 k hk, co_lt l.reverse k (by rw [List.length_reverse]; exact hk), List.getElem_reverse]
  split
  · rw [co_lt _ _ (by omega)]
  · rw [co_lt _ _ hk]
    congr 1
    omega
def RevRel (l : List UInt8) (n g cap : Nat) (w : World) (i j : Value) (wr : World) : Prop :=
  ∃ (k : Nat) (T : List UInt8), 2 * k ≤ n + 1 ∧ i = .int .i64 (k : Int) ∧ j = .int .i64 ((n : Int) - 1 - (k : Int)) ∧ Hid (RevT l T k) ∧ CelN wr g 5 cap T ∧ Only g w wr

theorem reverse_nil (A : Option Addr) (c : Nat) (w : World) :
    Calls Tryd.prog 50 #[.slice A 0 c] w fun e w' => (∃ v, e = .returned v) ∧ w = w' := by
  go_enter Tryd.func50, Tryd.ntmps50
  go_wp2_with fail
  go_loopw [2, 3] (fun i j wr => i = .int .i64 0 ∧ j = .int .i64 (-1) ∧ w = wr) (fun _ _ _ => 0)
  case atStart => exact ⟨rfl, rfl, rfl⟩
  case round =>
    obtain ⟨rfl, rfl, rfl⟩ := hrel
    go_wp2_with fail
    go_end0
    exact ⟨⟨_, rfl⟩, rfl⟩
set_option maxHeartbeats 2000000 in
theorem reverse_cel (l : List UInt8) (n g cap c : Nat) (w : World) (HN : Hid (l.length = n)) (hcel : CelN w g 5 cap l) (hnc : n ≤ c) (hn : n ≤ 100000) :
    Calls Tryd.prog 50 #[.slice (some ⟨g, 0, none⟩) n c] w fun e w' => (∃ v, e = .returned v) ∧ CelN w' g 5 cap l.reverse ∧ Only g w w' := by
  go_enter Tryd.func50, Tryd.ntmps50
  go_wp2_with fail
  go_loopw [2, 3] (fun i j wr => RevRel l n g cap w i j wr) (fun i _ _ => n - (intOf i).toNat)
  case atStart => exact ⟨0, l, by omega, rfl, by go_num, RevT.zero l, hcel, Only.refl _ _⟩
  case round =>
    clear hcel
    obtain ⟨k, T, hk, rfl, rfl, HT, hc, ho⟩ := hrel
    by_cases h : 2 * k + 1 < n
    · obtain ⟨q, hq⟩ : ∃ q, q = n - 1 - k := ⟨_, rfl⟩
      have e1 : (n : Int) - 1 - (k : Int) = (q : Int) := by omega
      have hTl : T.length = n := by rw [HT.out.1, HN.out]
      have h1 := hc.cel.get k (by omega)
      have h2 := hc.cel.get q (by omega)
      have f1 := hc.cel.frozen k
      have HX : Hid (RevT l ((T.set k (co T q)).set q (co T k)) (k + 1)) := by
        have := HT.out.next (by rw [HN.out]; exact h)
        rw [HN.out, ← hq] at this
        exact this
      generalize hx : co T k = x at h1 HX
      generalize hy : co T q = y at h2 HX
      have f2 := hc.cel.frozen q
      have hc2 := ((hc.set k y).set q x).drew
      have ho2 := ((ho.setCell k (.int .u8 (y.toNat : Int))).setCell q (.int .u8 (x.toNat : Int))).drew
      have j1 : (k : Int) < (q : Int) := by omega
      have j2 : (0 : Int) ≤ (k : Int) := by omega
      have j3 : (0 : Int) ≤ (q : Int) := by omega
      have j4 : (q : Int) < (n : Int) := by omega
      have j5 : (k : Int) < (n : Int) := by omega
      have HQ := Lib.hid hq
      have HR : Hid (RevRel l n g cap w (.int .i64 ((k : Int) + 1)) (.int .i64 ((q : Int) - 1)) ((wr.setCell ⟨g, k, none⟩ (.int .u8 (y.toNat : Int))).setCell ⟨g, q, none⟩ (.int .u8 (x.toNat : Int))).drew) :=
        ⟨k + 1, _, by omega, by go_num, by rw [show ((n : Int) - 1 - ((k + 1 : Nat) : Int)) = (q : Int) - 1 by omega], HX.out, hc2, ho2⟩
      rw [e1]
      clear hc hc2 ho ho2 hx hy hTl hq e1 hk HX HT
      go_wp2_with fail
      go_region
      go_wp2_with fail
      go_roundw
      case rel => exact HR.out
      case measure => simp [intOf] <;> omega
    · have HD : Hid (T = l.reverse) := HT.out.done (by rw [HN.out]; omega)
      have j1 : ¬ (k : Int) < (n : Int) - 1 - (k : Int) := by omega
      rw [HD.out] at hc
      go_wp2_with fail
      go_end0
      exact ⟨⟨_, rfl⟩, hc, ho⟩
end Go.Proofs.YtcnjackbiimjdaaDoor
/-
  What the program's calls of layer 9 answer, over the landed code. No conditions but those typed.
-/
namespace Go.Proofs.YtcnjackbiimjdaaDoor
set_option maxRecDepth 100000
open Go.RowKit
set_option linter.unusedSimpArgs false
set_option linter.unusedVariables false

/-- A call that hands back a list of bytes and an error. -/
def RetE (w : World) (l : List UInt8) (k : Int) (e : Ending) (w' : World) : Prop := ∃ A n c, e = .returned (.tuple #[.slice A n c, .int .i64 k]) ∧ Hid (l.length = n) ∧ n ≤ c ∧ Rd vB w' A l ∧ Below w.heap.size w w'

/-! ### mayBe, place, polynomial -/
theorem maybe_yes (n : Nat) (w : World) (h1 : 1 ≤ n) (h2 : n ≤ 64) : Calls Tryd.prog 41 #[.int .i64 (n : Int)] w fun e w' => e = .returned (.bool true) ∧ w = w' := by
  have j1 : (1 : Int) ≤ (n : Int) := by omega
  have j2 : (n : Int) ≤ 64 := by omega
  go_enter Tryd.func41, Tryd.ntmps41
  go_wp2_with fail
  go_ret
  exact ⟨rfl, rfl⟩
theorem maybe_no (n : Int) (w : World) (h : n < 1 ∨ 64 < n) : Calls Tryd.prog 41 #[.int .i64 n] w fun e w' => e = .returned (.bool false) ∧ w = w' := by
  by_cases h1 : 1 ≤ n
  · have h2 : ¬ n ≤ 64 := by omega
    clear h
    go_enter Tryd.func41, Tryd.ntmps41
    go_wp2_with fail
    go_ret
    exact ⟨rfl, rfl⟩
  · clear h
    go_enter Tryd.func41, Tryd.ntmps41
    go_wp2_with fail
    go_ret
    exact ⟨rfl, rfl⟩
theorem place_any (i : Nat) (x : UInt8) (w : World) (hi : i < 254) (HX : Hid (powB 2 (i + 1) = x)) : Calls Tryd.prog 43 #[.int .i64 (i : Int)] w fun e w' => e = .returned (.int .u8 (x.toNat : Int)) ∧ w = w' := by
  have h1 := gfexp_any ((i : Int) + 1) w
  rw [show ((i : Int) + 1) = ((i + 1 : Nat) : Int) by omega, powZ_two (i + 1) (by omega), HX.out, show (((i + 1 : Nat)) : Int) = (i : Int) + 1 by omega] at h1
  have H1 := Lib.hid h1
  clear h1
  go_enter Tryd.func43, Tryd.ntmps43
  go_wp2_with fail
  refine H1.out.mono ?_
  rintro e w1 ⟨rfl, rfl⟩
  go_wp2_with fail
  go_ret
  exact ⟨rfl, rfl⟩
theorem poly_own (b : List UInt8) (n : Nat) (A : Option Addr) (c : Nat) (w : World) (HN : Hid (b.length = n)) (hr : Rd vB w A b) (hn : n ≤ 100000) :
    Calls Tryd.prog 22 #[.slice A n c] w (RetP w b.reverse) := by
  have e1 := HN.out
  subst e1
  go_enter Tryd.func22, Tryd.ntmps22
  go_wp2_with fail
  refine (clone_own b A c w hr (by omega)).mono ?_
  rintro e w1 ⟨v, rfl, ho, hb1⟩
  obtain ⟨A1, c1, rfl, hc1⟩ := own_form ho
  by_cases h0 : b.length = 0
  · have e0 : b = [] := List.eq_nil_of_length_eq_zero h0
    subst e0
    go_wp2_with fail
    refine (reverse_nil A1 c1 w1).mono ?_
    rintro e w2 ⟨⟨v2, rfl⟩, rfl⟩
    go_wp2_with fail
    go_ret
    exact ⟨_, rfl, ho, hb1⟩
  · obtain ⟨g, rfl, hg, _⟩ := cel_of_own ho rfl (by omega)
    obtain ⟨hcel, _, hle, hmax⟩ := celN_some ho rfl
    go_wp2_with fail
    refine (reverse_cel b b.length g c1 c1 w1 (Lib.hid rfl) hcel hc1 hn).mono ?_
    rintro e w2 ⟨⟨v2, rfl⟩, hcel2, ho2⟩
    have hown := hcel2.own (base := w.heap.size) hg (by rw [List.length_reverse]; exact hc1) hmax
    have hb2 := hb1.trans (ho2.below.mono hg)
    rw [List.length_reverse] at hown
    have HO := Lib.hid hown
    clear hown
    go_wp2_with fail
    go_ret
    exact ⟨_, rfl, by rw [List.length_reverse]; exact HO.out, hb2⟩
theorem poly_any (b : List UInt8) (n : Nat) (A : Option Addr) (c : Nat) (w : World) (HN : Hid (b.length = n)) (hr : Rd vB w A b) (hn : n ≤ 100000) :
    Calls Tryd.prog 22 #[.slice A n c] w (RetQ w b.reverse) := (poly_own b n A c w HN hr hn).mono fun _ _ h => h.any

/-! ### Gen -/
def GenI (n : Nat) (w : World) (g i : Value) (wr : World) : Prop :=
  ∃ (j : Nat) (A : Option Addr) (k c : Nat), j ≤ n ∧ i = .int .i64 (j : Int) ∧ g = .slice A k c ∧ Hid ((genL j).length = k) ∧ k ≤ c ∧ Rd vB wr A (genL j) ∧ Below w.heap.size w wr
set_option maxHeartbeats 2000000 in
theorem genS_ok (n : Nat) (w : World) (h1 : 1 ≤ n) (h2 : n ≤ 64) :
    Calls Tryd.prog 20 #[.int .i64 (n : Int)] w (RetE w (genL n) 0) := by
  go_enter Tryd.func20, Tryd.ntmps20
  go_wp2_with fail
  refine (maybe_yes n _ h1 h2).mono ?_
  rintro e w1 ⟨rfl, rfl⟩
  go_wp2_with fail
  go_loopw [4, 11] (fun g i wr => GenI n w g i wr) (fun _ i _ => n - (intOf i).toNat)
  case atStart => exact ⟨0, some ⟨w.heap.size, 0, none⟩, 1, 1, Nat.zero_le _, rfl, rfl, rfl, Nat.le_refl _, Rd.new w [1] _ _ rfl, below_new (Below.refl _ _) _⟩
  case round =>
    obtain ⟨j, A, k, c, hj, rfl, rfl, HK, hc, hr, hb⟩ := hrel
    by_cases h : j < n
    · have j1 : (j : Int) < (n : Int) := by omega
      have HKJ : Hid (k ≤ 100) := by unfold Hid; rw [← HK.out, (gen_is j).1]; omega
      obtain ⟨x, hx⟩ : ∃ x, powB 2 (j + 1) = x := ⟨_, rfl⟩
      have hg : genL (j + 1) = plainL (mulL (genL j) [x, 1]) := by rw [← hx]; rfl
      obtain ⟨p', hp'⟩ : ∃ p', genL (j + 1) = p' := ⟨_, rfl⟩
      rw [hp'] at hg
      have HG := Lib.hid hg
      have HP' := Lib.hid hp'
      have HX := Lib.hid hx
      clear hx hg hp'
      generalize genL j = p at HK hr HG
      go_wp2_with fail
      refine (place_any j x _ (by omega) HX).mono ?_
      rintro e w1 ⟨rfl, rfl⟩
      go_wp2_with fail
      have hl : Rd vB (wr.alloc (.cells #[.int .u8 (x.toNat : Int), .int .u8 1] 5)) (some ⟨wr.heap.size, 0, none⟩) [x, 1] := Rd.new wr [x, 1] _ _ rfl
      refine (mulP_any p [x, 1] k 2 A _ c _ _ HK (Lib.hid rfl) (hr.keep (below_new (Below.refl _ _) _)) hl hc (Nat.le_refl _) (by have := HKJ.out; omega) (by omega)).mono ?_
      rintro e w2 ⟨A2, n2, c2, rfl, HN2, hc2, hr2, hb2⟩
      rw [← HG.out] at HN2 hr2
      have hB := below_step (below_new hb _) hb2
      clear hb hb2 hl hr HK HG
      go_wp2_with fail
      go_roundw
      case rel => exact ⟨j + 1, A2, n2, c2, h, by go_num, rfl, by rw [HP'.out]; exact HN2, hc2, by rw [HP'.out]; exact hr2, hB⟩
      case measure => simp [intOf] <;> omega
    · have j1 : ¬ (j : Int) < (n : Int) := by omega
      have ej : j = n := by omega
      subst ej
      go_wp2_with fail
      go_ret2
      exact ⟨A, k, c, rfl, HK, hc, hr, hb⟩
theorem genS_no (n : Int) (w : World) (h : n < 1 ∨ 64 < n) :
    Calls Tryd.prog 20 #[.int .i64 n] w (RetE w [] 1) := by
  have HM := Lib.hid (maybe_no n w h)
  clear h
  go_enter Tryd.func20, Tryd.ntmps20
  go_wp2_with fail
  refine HM.out.mono ?_
  rintro e w1 ⟨rfl, rfl⟩
  go_wp2_with fail
  go_ret2
  exact ⟨none, 0, 0, rfl, Lib.hid rfl, Nat.le_refl _, Rd.nil, Below.refl _ _⟩

/-! ### Put -/
theorem putS_quo (d q r : List UInt8) (n : Nat) (h1 : 1 ≤ n) (hl : d.length + n ≤ 255) (hq : IsQuo (d ++ List.replicate n 0).reverse (genL n) q r) (hp : plainL r = r) :
    r.length ≤ n ∧ (d ++ List.replicate n 0).take (d.length + n - r.length) ++ r.reverse ++ (d ++ List.replicate n 0).drop (d.length + n - r.length + r.length) = putS d n := by
  obtain ⟨hG1, _, hG3⟩ := gen_is n
  have hrl : r.length ≤ n := by
    have := hq.2
    rw [hp] at this
    have := plain_len (genL n)
    omega
  refine ⟨hrl, ?_⟩
  have hz : (d ++ List.replicate n (0 : UInt8)).length = d.length + n := by rw [List.length_append, List.length_replicate]
  rw [Nat.sub_add_cancel (by omega), List.drop_of_length_le (by omega), List.append_nil, show d.length + n - r.length = d.length + (n - r.length) by omega, List.take_length_add_append, List.take_replicate, Nat.min_eq_left (by omega), List.append_assoc]
  refine putS_only d _ n h1 (by rw [List.length_append, List.length_replicate, List.length_reverse]; omega) hl (fun i i1 i2 => ?_)
  rw [val_append, List.length_append, List.length_replicate, List.length_reverse, Nat.sub_add_cancel hrl]
  have e1 : valB (List.replicate (n - r.length) 0 ++ r.reverse) (powB 2 i) = evalL r (powB 2 i) := by
    unfold valB
    rw [List.reverse_append, List.reverse_reverse, List.reverse_replicate]
    exact eval_congr (fun k => co_pad r _ k) _
  have e2 := eval_congr hq.1 (powB 2 i)
  rw [eval_add, eval_mul, hG3 i i1 i2, mul_zero, zero_add] at e2
  have e3 : evalL (d ++ List.replicate n 0).reverse (powB 2 i) = valB (d ++ List.replicate n 0) (powB 2 i) := rfl
  have e4 : valB (List.replicate n 0) (powB 2 i) = 0 := by
    unfold valB
    rw [List.reverse_replicate]
    exact eval_zeros n _
  rw [e3, val_append, e4, zero_add, List.length_replicate] at e2
  rw [e1, e2, add_self]
theorem gen_plain_ne (n : Nat) : plainL (genL n) ≠ [] := fun h => by
  have h1 := plain_eqv (genL n) n
  rw [h, (gen_is n).2.1, co_nil] at h1
  cases h1
/-- 'copy(d, s)' into a block whose first cells are bytes. -/
theorem wp_copy_cel {P : Program} {o : Oper} {a : Act} {w : World} {K : Act → World → Prop} {Q : Exit → Act → World → Prop} (d s : Operand) (dT sT : TypeId)
    (ho : o.op = .call { callee := .builtin .copy, args := #[d, s], argTypes := #[dT, sT] }) (elem : TypeId) (hu : P.underlying dT = some (.slice elem)) (hsz : (P.info? elem).map (·.size) = some 1)
    (g off dLen dCap : Nat) (A : Option Addr) (S : List UInt8) (sCap : Nat) (hd : a.eval d = .slice (some ⟨g, off, none⟩) dLen dCap) (hs : a.eval s = .slice A S.length sCap)
    (l : List UInt8) (t : TypeId) (hg : Cel w g t l) (hr : Rd vB w A S) (hle : S.length ≤ dLen) (hfit : off + S.length ≤ l.length)
    (h : ∀ w', Cel w' g t (l.take off ++ S ++ l.drop (off + S.length)) → Only g w w' → K (a.put o.dst (.int .i64 (S.length : Int))) w') : o.wp P a w K Q := by
  obtain ⟨L, h1, h2⟩ := hg
  have hlen : l.length ≤ L.length := by
    have := congrArg List.length h2
    rw [List.length_take, List.length_map] at this
    omega
  refine wp_copy_row d s dT sT ho elem hu hsz g off dLen dCap A S sCap hd hs L t h1 hr (fun _ => rfl) hle (by omega) ?_
  exact h _ ⟨_, h1.setRow _, cel_splice h2 off S hfit⟩ ((Only.refl g w).setRow _)
/-- 's[k:]' of a slice at the beginning of its block, whichever k. -/
theorem cut_some {P : Program} (t e : TypeId) (ht : P.underlying t = some (.slice e)) (hz : ∀ w, (sizeOf e).run P w = .ok 1 w) (g M m : Nat) (hm : m ≤ M) :
    ∃ off, (∀ w, (Instr.slice t (.slice (some ⟨g, 0, none⟩) M M) (some (.int .i64 ((M - m : Nat) : Int))) none none).run P w = .ok (.slice (some ⟨g, off, none⟩) m m) w) ∧ off + m ≤ M ∧ (off = M - m ∨ m = 0) := by
  by_cases h0 : m = 0
  · subst h0
    refine ⟨0, fun w => ?_, by omega, .inr rfl⟩
    have ht' : P.underlying t = some (.slice (P.elem t)) := by simp [Program.elem, ht]
    have he : P.elem t = e := by simp [Program.elem, ht]
    rw [run_slice_l w t (some ⟨g, 0, none⟩) M M ht' .i64 ((M - 0 : Nat) : Int) (by omega) (by omega), he, hz]
    simp [Result.andThen, sliced, Addr.add]
  · refine ⟨M - m, fun w => ?_, by omega, .inl rfl⟩
    have := run_cut_at (P := P) t e ht hz g 0 M M (M - m) (by omega) (Nat.le_refl _) (by omega) w
    rw [Nat.zero_add, show M - (M - m) = m by omega] at this
    exact this
set_option maxHeartbeats 2000000 in
theorem putS_ok (d : List UInt8) (len n : Nat) (A : Option Addr) (c : Nat) (w : World) (HN : Hid (d.length = len)) (hr : Rd vB w A d) (hc : len ≤ c) (h1 : 1 ≤ n) (h2 : n ≤ 64) (hl : len + n ≤ 255) :
    Calls Tryd.prog 13 #[.slice A len c, .int .i64 (n : Int)] w (RetE w (putS d n) 0) := by
  obtain ⟨i0, hi, hz0, hz1, hz2⟩ := info_parts info_u8
  have e1 := HN.out
  subst e1
  have HM := Lib.hid (genS_ok n w h1 h2)
  have HNE := Lib.hid (gen_plain_ne n)
  have HG1 := Lib.hid (gen_is n).1
  have HP : Hid (∀ q r, IsQuo (d ++ List.replicate n 0).reverse (genL n) q r → plainL r = r → _) := fun q r a b => putS_quo d q r n h1 hl a b
  have HPL := Lib.hid (putS_length d n h1)
  obtain ⟨F, hF⟩ : ∃ F, putS d n = F := ⟨_, rfl⟩
  rw [hF] at HP HPL ⊢
  clear hF
  have j1 : ¬ (255 : Int) - (n : Int) < (d.length : Int) := by omega
  obtain ⟨M, hM⟩ : ∃ M : Nat, M = d.length + n := ⟨_, rfl⟩
  have m0 : (d.length : Int) + (n : Int) = (M : Int) := by omega
  rw [← hM] at HP HPL
  have hMd : d.length ≤ M := by omega
  have hM2 : M ≤ 255 := by omega
  have HMd : Hid (M - d.length = n) := by unfold Hid; omega
  have hnM : n ≤ M := by omega
  clear hM
  go_enter Tryd.func13, Tryd.ntmps13
  go_wp2_with fail
  refine HM.out.mono ?_
  rintro e w1 ⟨A1, n1, c1, rfl, HN1, hc1, hr1, hb1⟩
  have hn1 : n1 ≤ 100 := by rw [← HN1.out, HG1.out]; omega
  generalize genL n = G at HN1 hr1 HNE HP
  replace hr := hr.keep hb1
  clear HM HG1
  go_upto_region 7 with (at_make; refine wpList_make_full _ rfl _ _ 23 rfl w1.heap.size 5 i0 (.int .u8 0) 1 Tryd.underlying23 hi hz0 hz1 .i64 .i64 _ _ M rfl rfl rfl rfl (by rw [hz2]; omega) (by unfold maxLen; omega) (Nat.le_refl _) ?_; intro w0 hown0 hgrow0)
  rw [Nat.mul_one, show (Value.int .u8 0).cells = #[.int .u8 0] from rfl, toList_madeCells_one, zeros_map] at hown0
  obtain ⟨hc0, _, _⟩ := cel_some hown0 List.length_replicate
  have hB0 : Below w1.heap.size w1 w0 := (Below.refl _ _).grown hgrow0 (Nat.le_refl _) (by simp)
  have hr0 := hr.keep hB0
  have hr10 := hr1.keep hB0
  have hgw : w.heap.size ≤ w1.heap.size := hb1.size
  have hB := below_step hb1 hB0
  have hAG := hr1.apart (Nat.le_refl _)
  generalize hgd : w1.heap.size = g at hc0 hgw hAG ⊢
  clear hown0 hgrow0 hr hr1 m0 hgd
  go_upto_region 8 with (refine wpList_copy_cel rfl (.tmp 30) (.tmp 31) 23 23 rfl 5 Tryd.underlying23 (by kernel_rfl) g 0 M M A d c rfl rfl (List.replicate M 0) 5 hc0 hr0 hMd (by rw [List.length_replicate]; omega) ?_; intro w3 hc3 ho3)
  have e0 : (List.replicate M (0 : UInt8)).take 0 ++ d ++ (List.replicate M 0).drop (0 + d.length) = d ++ List.replicate n 0 := by
    rw [List.take_zero, List.nil_append, List.drop_replicate, Nat.zero_add, HMd.out]
  rw [e0] at hc3
  have HZL : Hid ((d ++ List.replicate n (0 : UInt8)).length = M) := by
    unfold Hid
    rw [List.length_append, List.length_replicate]
    have := HMd.out
    omega
  have hr13 := hr10.only ho3 hAG
  have hg3 : g < w3.heap.size := hc3.lt
  have hBB := hB.trans (ho3.below.mono hgw)
  generalize d ++ List.replicate n (0 : UInt8) = Z at hc3 HZL HP
  clear e0 hc0 hr0 hr10 hB ho3 hB0
  go_wp2_with fail
  refine (poly_any Z M (some ⟨g, 0, none⟩) M w3 HZL hc3.rd (by omega)).mono ?_
  rintro e w4 ⟨A4, n4, c4, rfl, HN4, hc4, hr4, hb4⟩
  have hn4 : n4 ≤ 255 := by rw [← HN4.out, List.length_reverse, HZL.out]; exact hM2
  have hcel4 := hc3.later hb4
  have hBB4 := below_step hBB hb4
  have hs4 := hb4.size
  generalize Z.reverse = Zr at HN4 hr4 HP
  go_wp2_with fail
  refine (quoP_good Zr G n4 n1 A4 A1 c4 c1 w4 HN4 HN1 hr4 (hr13.keep hb4) hc4 hc1 (by omega) (by omega) HNE).mono ?_
  rintro e w5 ⟨a, r, A5, B5, n5, m5, c5, d5, rfl, HA5, HR5, hn5, hm5, hra, hrr, hb5, HQ⟩
  obtain ⟨hrl, hfin⟩ := HP.out a r HQ.out.1 HQ.out.2.2
  rw [HR5.out] at hrl hfin
  have hcel5 := hcel4.later hb5
  have hBB5 := below_step hBB4 hb5
  have hs5 := hb5.size
  have hmM : m5 ≤ M := by omega
  obtain ⟨off, hcut, hoff1, hoff2⟩ := cut_some (P := Tryd.prog) 23 5 Tryd.underlying23 size_uint8 g M m5 hmM
  have mk : (M : Int) - (m5 : Int) = ((M - m5 : Nat) : Int) := by omega
  have mw : IntKind.i64.wrap ((M : Int) - (m5 : Int)) = (M : Int) - (m5 : Int) := by rw [IntKind.wrap_i64]; omega
  rw [← mk] at hcut
  have HF : Hid (Z.take off ++ r.reverse ++ Z.drop (off + r.reverse.length) = F) := by
    unfold Hid
    rw [List.length_reverse, HR5.out]
    rcases hoff2 with e | e
    · rw [e]; exact hfin
    · have er : r = [] := List.eq_nil_of_length_eq_zero (by rw [HR5.out, e])
      rw [er, e] at hfin ⊢
      simp only [List.reverse_nil, List.append_nil, Nat.add_zero, List.take_append_drop] at hfin ⊢
      exact hfin
  have HCUT := Lib.hid hcut
  have HMK := Lib.hid mk
  have HRR : Hid (r.reverse.length = m5) := by unfold Hid; rw [List.length_reverse, HR5.out]
  have hbase5 : Below g w5 w5.drew := (Below.refl _ _).drew
  clear hcut mk hfin hoff2 HQ hra HA5 hcel4 hc3 hr4 HP HNE HN4 HN1 hr13 hb5 hb4 hBB4 hBB hc1 hc4 hn1 hn4 hrl hn5
  go_upto_region 9 with fail
  refine wp_region_plan_at g (.step 0 false (.step 1 false (.step 2 false (.step 3 false (.step 4 false (.step 5 false (.step 6 false (.step 7 false (.step 8 true (.step 9 true (.nil))))))))))) (by kernel_rfl) (by kernel_rfl) (by rfl) (by kernel_rfl) ?_
  have hBase := hbase5
  have hcutW := HCUT.out
  iterate 8 (refine plan_read rfl (by rfl) (v := ?_) ?_ ?_; rotate_left 1; (intro W hW; have hW0 := Below.trans hBase hW; (try dsimp only at hW); go_simp <;> with_reducible rfl); simp only [List.getElem_toArray, List.getElem_cons_zero, List.getElem_cons_succ, Act.put, List.setIfInBounds_toArray, List.set_cons_zero, List.set_cons_succ])
  (refine plan_make_at rfl (by rfl) (fun K hK => ?_); go_simp; refine (poly_any r m5 B5 d5 _ HR5 (hrr.keep (Below.refl _ w5).drew) (by omega)).mono ?_; rintro e w6 ⟨A6, n6, c6, rfl, HN6, hc6, hr6, hb6⟩; have hz6 : w5.heap.size ≤ w6.heap.size := hb6.size; refine hK.out _ _ (hb6.mono (by change g ≤ w5.heap.size; omega)) ?_; clear hK K; replace hBase := hBase.trans (hb6.mono (by change g ≤ w5.heap.size; omega)))
  have hcel6 := hcel5.drew.later hb6
  have hBB6 := below_step hBB5.drew hb6
  generalize r.reverse = T at HN6 hr6 HF HRR
  have e6 := HN6.out
  subst e6
  have hTm : T.length ≤ m5 := Nat.le_of_eq HRR.out
  have hfit : off + T.length ≤ Z.length := by rw [HZL.out, HRR.out]; exact hoff1
  (refine plan_make_at rfl (by rfl) (fun K hK => ?_); refine wp_copy_cel (.tmp 47) (.tmp 49) 23 23 rfl 5 Tryd.underlying23 (by kernel_rfl) g off m5 m5 A6 T c6 rfl rfl Z 5 hcel6 hr6 hTm hfit ?_; intro w7 hc7 ho7; refine hK.out _ _ ho7.below ?_; clear hK K)
  refine plan_done ?_
  rw [HF.out] at hc7
  have hrF := hc7.rd
  have hBF := hBB6.trans (ho7.below.mono hgw)
  clear hcel6 hcel5 hc7 ho7 hBase
  go_wp2_with fail
  go_ret2
  exact ⟨_, M, M, rfl, HPL.out, Nat.le_refl _, hrF, hBF⟩
theorem putS_no (d : List UInt8) (len : Nat) (n : Int) (A : Option Addr) (c : Nat) (w : World) (HN : Hid (d.length = len)) (hr : Rd vB w A d) (hc : len ≤ c) (hl : len ≤ 100000) (h : n < 1 ∨ 64 < n) :
    Calls Tryd.prog 13 #[.slice A len c, .int .i64 n] w (RetE w [] 1) := by
  have HM := Lib.hid (genS_no n w h)
  clear h
  go_enter Tryd.func13, Tryd.ntmps13
  go_wp2_with fail
  refine HM.out.mono ?_
  rintro e w1 ⟨A1, n1, c1, rfl, HN1, hc1, hr1, hb1⟩
  go_wp2_with fail
  go_ret2
  exact ⟨none, 0, 0, rfl, Lib.hid rfl, Nat.le_refl _, Rd.nil, hb1⟩
theorem putS_long (d : List UInt8) (len n : Nat) (A : Option Addr) (c : Nat) (w : World) (HN : Hid (d.length = len)) (hr : Rd vB w A d) (hc : len ≤ c) (h1 : 1 ≤ n) (h2 : n ≤ 64) (hl : 255 < len + n) (hl2 : len ≤ 100000) :
    Calls Tryd.prog 13 #[.slice A len c, .int .i64 (n : Int)] w (RetE w [] 4) := by
  have HM := Lib.hid (genS_ok n w h1 h2)
  have j1 : (255 : Int) - (n : Int) < (len : Int) := by omega
  go_enter Tryd.func13, Tryd.ntmps13
  go_wp2_with fail
  refine HM.out.mono ?_
  rintro e w1 ⟨A1, n1, c1, rfl, HN1, hc1, hr1, hb1⟩
  go_wp2_with fail
  go_ret2
  exact ⟨none, 0, 0, rfl, Lib.hid rfl, Nat.le_refl _, Rd.nil, hb1⟩

/-! ### Signs, Fine -/
def SigRel (b : List UInt8) (n g : Nat) (w : World) (i : Value) (wr : World) : Prop :=
  ∃ (k : Nat) (T : List UInt8), k ≤ n ∧ i = .int .i64 (k : Int) ∧ T.length = n ∧ (∀ j, j < k → co T j = sigF b j) ∧ Cel wr g 5 T ∧ Below w.heap.size w wr
set_option maxHeartbeats 2000000 in
theorem signsS_ok (b : List UInt8) (len n : Nat) (A : Option Addr) (c : Nat) (w : World) (HN : Hid (b.length = len)) (hr : Rd vB w A b) (hc : len ≤ c) (h1 : 1 ≤ n) (h2 : n ≤ 64) (h3 : n ≤ len) (h4 : len ≤ 255) :
    Calls Tryd.prog 24 #[.slice A len c, .int .i64 (n : Int)] w (RetE w (signsL b n) 0) := by
  obtain ⟨i0, hi, hz0, hz1, hz2⟩ := info_parts info_u8
  have HM := Lib.hid (maybe_yes n w h1 h2)
  have j1 : ¬ (len : Int) < (n : Int) := by omega
  have j2 : ¬ (255 : Int) < (len : Int) := by omega
  go_enter Tryd.func24, Tryd.ntmps24
  go_wp2_with fail
  refine HM.out.mono ?_
  rintro e w1 ⟨rfl, rfl⟩
  go_wp2_with fail
  refine (poly_any b len A c w HN hr (by omega)).mono ?_
  rintro e w2 ⟨A2, n2, c2, rfl, HN2, hc2, hr2, hb2⟩
  have hn2 : n2 ≤ 255 := by rw [← HN2.out, List.length_reverse, HN.out]; exact h4
  have hgw := hb2.size
  clear j1 j2 HM
  go_upto_region 9 with (at_make; refine wpList_make_full _ rfl _ _ 23 rfl w2.heap.size 5 i0 (.int .u8 0) 1 Tryd.underlying23 hi hz0 hz1 .i64 .i64 _ _ n rfl rfl rfl rfl (by rw [hz2]; omega) (by unfold maxLen; omega) (Nat.le_refl _) ?_; intro w0 hown0 hgrow0)
  rw [Nat.mul_one, show (Value.int .u8 0).cells = #[.int .u8 0] from rfl, toList_madeCells_one, zeros_map] at hown0
  obtain ⟨hc0, _, _⟩ := cel_some hown0 List.length_replicate
  have hB0 : Below w2.heap.size w2 w0 := (Below.refl _ _).grown hgrow0 (Nat.le_refl _) (by simp)
  generalize hgd : w2.heap.size = g at hc0 ⊢
  have hgl : w2.heap.size ≤ g := Nat.le_of_eq hgd
  clear hown0 hgrow0
  go_wp2_with fail
  go_loopw [28] (fun i wr => SigRel b n g w2 i wr) (fun i _ => n - (intOf i).toNat)
  case atStart => exact ⟨0, List.replicate n 0, Nat.zero_le _, rfl, List.length_replicate, fun j hj => absurd hj (Nat.not_lt_zero j), hc0, hB0⟩
  case round =>
    clear hc0 hB0
    obtain ⟨k, T, hk, rfl, hT, hS, hcel, hB⟩ := hrel
    by_cases h : k < n
    · have k1 : (k : Int) < (n : Int) := by omega
      have k0 : (0 : Int) ≤ (k : Int) := by omega
      obtain ⟨x, hx⟩ : ∃ x, powB 2 (k + 1) = x := ⟨_, rfl⟩
      have HX := Lib.hid hx
      obtain ⟨y, hy⟩ : ∃ y, sigF b k = y := ⟨_, rfl⟩
      have HE : Hid (evalL b.reverse x = y) := by rw [← hx, ← hy]; rfl
      have hEv := fun W (hW : Below w2.heap.size w2 W) => evalP_any b.reverse x n2 A2 c2 W HN2 (hr2.keep hW) hc2 (by omega)
      rw [HE.out] at hEv
      have HEv := Lib.hid hEv
      have HS : Hid (∀ W, Cel W g 5 (T.set k y) → Below w2.heap.size w2 W → SigRel b n g w2 (.int .i64 ((k : Int) + 1)) W) := fun W h1 h2 =>
        ⟨k + 1, T.set k y, h, by go_num, by rw [List.length_set]; exact hT, fun j hj => by
          rw [co_set _ _ _ _ (by omega)]
          split
          · next e => rw [e, hy]
          · exact hS j (by omega), h1, h2⟩
      have hkT : k < T.length := by omega
      clear hEv hx hy hS
      go_wp2_with fail
      refine (place_any k x _ (by omega) HX).mono ?_
      rintro e w3 ⟨rfl, rfl⟩
      go_wp2_with fail
      refine (HEv.out _ hB).mono ?_
      rintro e w4 ⟨rfl, hb4⟩
      have hcel4 := hcel.later hb4
      have hB4 := below_step hB hb4
      have hc4 := hcel4.get k hkT
      have hf4 := hcel4.frozen k
      have HR := Lib.hid (HS.out _ (hcel4.set k y) (hB4.setCell (p := ⟨g, k, none⟩) hgl (.int .u8 (y.toNat : Int))))
      clear hcel hB hcel4 hB4 hb4
      go_wp2_with fail
      go_roundw
      case rel => exact HR.out
      case measure => simp [intOf] <;> omega
    · have ek : k = n := by omega
      subst ek
      have j1 : ¬ (k : Int) < (k : Int) := by omega
      have HT : Hid (T = signsL b k) := by
        rw [← signs_tab]
        refine co_ext (by rw [hT, signs_tab, signs_length]) (fun j hj => ?_)
        rw [hT] at hj
        rw [hS j hj, signs_tab, co_lt _ j (by rw [signs_length]; exact hj)]
        simp [signsL, sigF]
      have hBw := below_step hb2 hB
      have hrT := hcel.rd
      rw [HT.out] at hrT hT
      have HTL := Lib.hid hT
      clear hT hS hcel hB
      go_wp2_with fail
      go_ret2
      exact ⟨_, k, k, rfl, HTL, Nat.le_refl _, hrT, hBw⟩
theorem signsS_no (b : List UInt8) (len : Nat) (n : Int) (A : Option Addr) (c : Nat) (w : World) (HN : Hid (b.length = len)) (hr : Rd vB w A b) (hc : len ≤ c) (hl : len ≤ 100000) (h : Hid (errS len n ≠ 0)) :
    Calls Tryd.prog 24 #[.slice A len c, .int .i64 n] w (RetE w [] (errS len n)) := by
  have hE := h.out
  unfold errS at hE ⊢
  by_cases h1 : n < 1 ∨ 64 < n
  · rw [if_pos h1]
    have HM := Lib.hid (maybe_no n w h1)
    clear hE h1 h
    go_enter Tryd.func24, Tryd.ntmps24
    go_wp2_with fail
    refine HM.out.mono ?_
    rintro e w1 ⟨rfl, rfl⟩
    go_wp2_with fail
    go_ret2
    exact ⟨none, 0, 0, rfl, Lib.hid rfl, Nat.le_refl _, Rd.nil, Below.refl _ _⟩
  · rw [if_neg h1] at hE ⊢
    obtain ⟨m, rfl⟩ : ∃ m : Nat, n = (m : Int) := ⟨n.toNat, by omega⟩
    have HM := Lib.hid (maybe_yes m w (by omega) (by omega))
    by_cases h2 : (len : Int) < (m : Int)
    · rw [if_pos h2]
      clear hE h1 h
      go_enter Tryd.func24, Tryd.ntmps24
      go_wp2_with fail
      refine HM.out.mono ?_
      rintro e w1 ⟨rfl, rfl⟩
      go_wp2_with fail
      go_ret2
      exact ⟨none, 0, 0, rfl, Lib.hid rfl, Nat.le_refl _, Rd.nil, Below.refl _ _⟩
    · rw [if_neg h2] at hE ⊢
      by_cases h4 : 255 < len
      · rw [if_pos h4]
        have j4 : (255 : Int) < (len : Int) := by omega
        clear hE h1 h
        go_enter Tryd.func24, Tryd.ntmps24
        go_wp2_with fail
        refine HM.out.mono ?_
        rintro e w1 ⟨rfl, rfl⟩
        go_wp2_with fail
        go_ret2
        exact ⟨none, 0, 0, rfl, Lib.hid rfl, Nat.le_refl _, Rd.nil, Below.refl _ _⟩
      · rw [if_neg h4] at hE
        exact absurd rfl hE
theorem all_zero_eq (n : Nat) : ∀ l : List UInt8, l.length = n → decide (l = List.replicate n 0) = l.all (· == 0) := fun l hl => by
  rw [Bool.eq_iff_iff, decide_eq_true_eq, List.all_eq_true]
  constructor
  · rintro rfl x hx
    rw [(List.mem_replicate.1 hx).2]
    rfl
  · intro h
    exact List.eq_replicate_iff.2 ⟨hl, fun x hx => by simpa using h x hx⟩
theorem fineS_any (b : List UInt8) (len : Nat) (n : Int) (A : Option Addr) (c : Nat) (w : World) (HN : Hid (b.length = len)) (hr : Rd vB w A b) (hc : len ≤ c) (hl : len ≤ 100000) :
    Calls Tryd.prog 29 #[.slice A len c, .int .i64 n] w fun e w' => e = .returned (.bool (fineS b n)) ∧ Below w.heap.size w w' := by
  by_cases h0 : errS len n = 0
  · obtain ⟨m, rfl, h1, h2, h3, h4⟩ := errS_cases len n h0
    have HF : Hid (fineS b (m : Int) = decide (signsL b m = List.replicate m 0)) := by
      unfold Hid fineS
      rw [HN.out, h0, all_zero_eq m _ (signs_length b m)]
      rfl
    have HM := Lib.hid (signsS_ok b len m A c w HN hr hc h1 h2 h3 h4)
    rw [HF.out]
    clear h0
    go_enter Tryd.func29, Tryd.ntmps29
    go_wp2_with fail
    refine HM.out.mono ?_
    rintro e w1 ⟨A1, n1, c1, rfl, HN1, hc1, hr1, hb1⟩
    obtain ⟨i0, hi, hz0, hz1, hz2⟩ := info_parts info_u8
    have hmk := run_makeSlice (P := Tryd.prog) (w := w1) 23 5 i0 (.int .u8 0) Tryd.underlying23 hi hz0 .i64 .i64 (m : Int) (m : Int) (by omega) (Int.le_refl _) (by rw [hz1]; omega) (by rw [hz2]; omega) (by omega)
    rw [hz1, Int.toNat_natCast, Nat.mul_one] at hmk
    have hZ : madeCells (Value.int .u8 0).cells m = ((List.replicate m (0 : UInt8)).map vB).toArray := by
      apply Array.toList_inj.1
      rw [show (Value.int .u8 0).cells = #[.int .u8 0] from rfl, toList_madeCells_one, zeros_map]
    rw [hZ] at hmk
    have hrz := Rd.new (f := vB) w1 (List.replicate m (0 : UInt8)) _ 5 rfl
    have hB1 := below_new (Below.refl _ w1) (.cells ((List.replicate m (0 : UInt8)).map vB).toArray 5)
    have hr1' := hr1.keep hB1
    have hBB := below_step hb1 hB1
    have HZL : Hid ((List.replicate m (0 : UInt8)).length = m) := List.length_replicate
    generalize hZe : List.replicate m (0 : UInt8) = Z at hmk hrz hB1 hr1' hBB HZL ⊢
    have HZE := Lib.hid hZe
    have HRZ := Lib.hid hrz
    have HR1 := Lib.hid hr1'
    have HBB := Lib.hid hBB
    clear hrz hr1' hBB hB1 hZ hZe
    go_wp2_with fail
    refine (equal_any (signsL b m) Z n1 m A1 _ c1 m _ HN1 HZL HR1.out HRZ.out).mono ?_
    rintro e w2 ⟨rfl, rfl⟩
    obtain ⟨r, hr0⟩ : ∃ r, decide (signsL b m = Z) = r := ⟨_, rfl⟩
    have HD := Lib.hid hr0
    rw [hr0]
    clear hr0
    go_wp2_with fail
    go_ret
    exact ⟨by rw [HZE.out, HD.out]; rfl, HBB.out⟩
  · have HM := Lib.hid (signsS_no b len n A c w HN hr hc hl (Lib.hid h0))
    have HF : Hid (fineS b n = false) := by
      unfold Hid fineS
      rw [HN.out, decide_eq_false h0]
      rfl
    rw [HF.out]
    generalize errS len n = k at HM h0
    have hk : (k == 0) = false := beq_eq_false_iff_ne.2 h0
    clear h0
    go_enter Tryd.func29, Tryd.ntmps29
    go_wp2_with fail
    refine HM.out.mono ?_
    rintro e w1 ⟨A1, n1, c1, rfl, HN1, hc1, hr1, hb1⟩
    go_wp2_with fail
    go_ret
    exact ⟨rfl, hb1⟩
end Go.Proofs.YtcnjackbiimjdaaDoor
/-
  What the program's calls of layer 10 answer, over the landed code. No conditions but those typed.
-/
namespace Go.Proofs.YtcnjackbiimjdaaDoor
set_option maxRecDepth 100000
open Go.RowKit
set_option linter.unusedSimpArgs false
set_option linter.unusedVariables false

/-! ### Most -/
def mostN (n : Int) : Int := if n < 1 ∨ 64 < n then 0 else n / 2
theorem mostM_any (n : Int) (w : World) : Calls Tryd.prog 53 #[.int .i64 n] w fun e w' => e = .returned (.int .i64 (mostN n)) ∧ w = w' := by
  by_cases h1 : n < 1
  · have HE : Hid (mostN n = 0) := if_pos (.inl h1)
    rw [HE.out]
    go_enter Tryd.func53, Tryd.ntmps53
    go_wp2_with fail
    go_ret
    exact ⟨rfl, rfl⟩
  · by_cases h2 : 64 < n
    · have HE : Hid (mostN n = 0) := if_pos (.inr h2)
      rw [HE.out]
      go_enter Tryd.func53, Tryd.ntmps53
      go_wp2_with fail
      go_ret
      exact ⟨rfl, rfl⟩
    · obtain ⟨m, rfl⟩ : ∃ m : Nat, n = (m : Int) := ⟨n.toNat, by omega⟩
      have HE : Hid (mostN (m : Int) = ((m / 2 : Nat) : Int)) := by
        unfold Hid mostN
        rw [if_neg (by omega)]
        omega
      have e1 : (m : Int).tdiv 2 = ((m / 2 : Nat) : Int) := by rw [Int.tdiv_eq_ediv_of_nonneg (by omega)]; omega
      have e2 : IntKind.i64.wrap ((m / 2 : Nat) : Int) = ((m / 2 : Nat) : Int) := by rw [IntKind.wrap_i64]; omega
      rw [HE.out]
      go_enter Tryd.func53, Tryd.ntmps53
      go_wp2_with fail
      go_ret
      exact ⟨rfl, rfl⟩

/-! ### solve -/
def lenV : Value → Nat
  | .slice _ n _ => n
  | _ => 0
theorem quo_pl {p q a r : List UInt8} (h : IsQuo p q a r) (hl : pl q < pl p) : pl a + pl q ≤ pl p + 1 := by
  have hr : pl r < pl q := h.2
  by_cases h0 : pl a = 0
  · omega
  · have e1 : pl (mulL a q) = pl a + pl q - 1 := pl_mul_eq a q (by omega) (by omega)
    have e2 : Eqv (mulL a q) (addL p r) := fun k => by
      have := h.1 k
      rw [co_add] at this
      rw [co_add, ← this, add_assoc, add_self, add_zero]
    have e3 := pl_add p r
    rw [pl_congr e2] at e1
    omega
/-- A polynomial that may be read. -/
def HasP (w : World) (v : Value) (l : List UInt8) : Prop := ∃ A n c, v = .slice A n c ∧ Hid (l.length = n) ∧ n ≤ c ∧ n ≤ 100 ∧ Rd vB w A l
theorem HasP.keep {w w' : World} {v : Value} {l : List UInt8} (h : HasP w v l) (hb : Below w.heap.size w w') : HasP w' v l := by
  obtain ⟨A, n, c, e, h1, h2, h3, h4⟩ := h
  exact ⟨A, n, c, e, h1, h2, h3, h4.keep hb⟩
def SolveR (S : List UInt8) (n : Nat) (w : World) (a l fa f : Value) (wr : World) : Prop :=
  ∃ (ah le fA fi : List UInt8), HasP wr a ah ∧ HasP wr l le ∧ HasP wr fa fA ∧ HasP wr f fi ∧ Below w.heap.size w wr ∧ Hid (Euc n S ah le fA fi)
def RetSolve (S : List UInt8) (n : Nat) (w : World) (e : Ending) (w' : World) : Prop :=
  ∃ (vf vl : Value) (ah le fA fi : List UInt8), e = .returned (.tuple #[vf, vl]) ∧ HasP w' vf fi ∧ HasP w' vl le ∧ Below w.heap.size w w' ∧ Hid (Euc n S ah le fA fi ∧ pl le ≤ n - n / 2)
set_option maxHeartbeats 2000000 in
theorem solveM_any (S : List UInt8) (n : Nat) (A : Option Addr) (c : Nat) (w : World) (HN : Hid (S.length = n)) (hr : Rd vB w A S) (hc : n ≤ c) (h1 : 1 ≤ n) (h2 : n ≤ 64) :
    Calls Tryd.prog 25 #[.slice A n c] w (RetSolve S n w) := by
  obtain ⟨i0, hi, hz0, hz1, hz2⟩ := info_parts info_u8
  have HM : ∀ W, Calls Tryd.prog 53 #[.int .i64 (n : Int)] W fun e w' => e = .returned (.int .i64 ((n / 2 : Nat) : Int)) ∧ W = w' := fun W => by
    have := mostM_any (n : Int) W
    unfold mostN at this
    rw [if_neg (by omega), show (n : Int) / 2 = ((n / 2 : Nat) : Int) by omega] at this
    exact this
  have HMost := Lib.hid HM
  clear HM
  have HST := Lib.hid (euc_start n S HN.out)
  go_enter Tryd.func25, Tryd.ntmps25
  go_upto_region 3 with (first
    | (at_make; refine wpList_make_full _ rfl _ _ 23 rfl w.heap.size 5 i0 (.int .u8 0) 1 Tryd.underlying23 hi hz0 hz1 .i64 .i64 _ _ n rfl rfl rfl rfl (by rw [hz2]; omega) (by unfold maxLen; omega) (Nat.le_refl _) ?_; intro w0 hown0 hgrow0)
    | (at_builtin; refine wpList_append_rd (f := vB) _ rfl (.tmp 15) (.tmp 16) 23 rfl w.heap.size 5 i0 (.int .u8 0) 1 Tryd.underlying23 hi hz0 hz1 hz2 rfl _ _ _ rfl (ownsRow_later hown0 (below_new (Below.refl _ w0) _)) _ ([1] : List UInt8) 1 rfl (Rd.new w0 [1] _ _ rfl) vB_one (by unfold maxLen; simp; omega) (by simp; omega) (by simp only [World.size_alloc]; have := hgrow0.size; simp at this ⊢; omega) ?_; intro v4 w4 hown4 hgrow4))
  rw [Nat.mul_one, show (Value.int .u8 0).cells = #[.int .u8 0] from rfl, toList_madeCells_one, zeros_map, ← List.map_append] at hown4
  have hB0 : Below w.heap.size w w0 := (Below.refl _ _).grown hgrow0 (Nat.le_refl _) (by simp)
  have hB4 : Below w.heap.size w w4 := (below_new hB0 _).grown hgrow4 (by have := hB0.size; simp; omega) (fun k hk => (hown0.lt k hk).1)
  have hXL : (List.replicate n (0 : UInt8) ++ [1]).length = n + ([1] : List UInt8).length := by simp
  rw [← hXL] at hown4
  obtain ⟨A4, c4, rfl, hc4, hr4⟩ := own_slice hown4
  rw [hXL] at hc4 ⊢
  simp only [List.length_cons, List.length_nil, Nat.zero_add] at hc4 ⊢
  replace hr := hr.keep hB4
  have HAh : HasP w4 (.slice A4 (n + 1) c4) (xN n) := ⟨A4, n + 1, c4, rfl, by unfold Hid; exact xN_length n, hc4, by omega, hr4⟩
  have HLe : HasP w4 (.slice A n c) S := ⟨A, n, c, rfl, HN, hc, by omega, hr⟩
  have hb1 := below_new (Below.refl _ w4) (.cells #[] 5)
  have hb2 := below_new hb1 (.cells #[.int .u8 1] 5)
  have HFa : HasP (w4.alloc (.cells #[] 5)) (.slice (some ⟨w4.heap.size, 0, none⟩) 0 0) [] := ⟨_, 0, 0, rfl, Lib.hid rfl, Nat.le_refl _, by omega, Rd.nil⟩
  have HFi : HasP ((w4.alloc (.cells #[] 5)).alloc (.cells #[.int .u8 1] 5)) (.slice (some ⟨(w4.alloc (.cells #[] 5)).heap.size, 0, none⟩) 1 1) [1] := ⟨_, 1, 1, rfl, Lib.hid rfl, Nat.le_refl _, by omega, Rd.new _ [1] _ _ rfl⟩
  have HREL : Hid (SolveR S n w (.slice A4 (n + 1) c4) (.slice A n c) (.slice (some ⟨w4.heap.size, 0, none⟩) 0 0) (.slice (some ⟨(w4.alloc (.cells #[] 5)).heap.size, 0, none⟩) 1 1) ((w4.alloc (.cells #[] 5)).alloc (.cells #[.int .u8 1] 5))) :=
    ⟨xN n, S, [], [1], HAh.keep hb2, HLe.keep hb2, HFa.keep (below_new (Below.refl _ _) _), HFi, below_step hB4 hb2, HST⟩
  rw [show (w4.alloc (.cells #[] 5)).heap.size = w4.heap.size + 1 by simp] at HREL
  clear HAh HLe HFa HFi hb1 hb2 hr4 hown4 hgrow4 hB4 hB0 hown0 hgrow0 hXL hr HST
  go_wp2_with fail
  go_loopw [5, 6, 7, 8] (fun a l fa f wr => SolveR S n w a l fa f wr) (fun _ l _ _ _ => lenV l)
  case atStart => exact HREL.out
  case round =>
    clear HREL
    obtain ⟨ah, le, fA, fi, ⟨A1, n1, d1, rfl, HN1, hd1, hm1, hr1⟩, ⟨A2, n2, d2, rfl, HN2, hd2, hm2, hr2⟩, ⟨A3, n3, d3, rfl, HN3, hd3, hm3, hr3⟩, ⟨A5, n5, d5, rfl, HN5, hd5, hm5, hr5⟩, hB, HE⟩ := hrel
    go_wp2_with fail
    refine (degP_any le n2 A2 d2 _ HN2 hr2 hd2 (by omega)).mono ?_
    rintro e w1 ⟨rfl, hb⟩
    replace hB := below_step hB hb
    replace hr1 := hr1.keep hb
    replace hr2 := hr2.keep hb
    replace hr3 := hr3.keep hb
    replace hr5 := hr5.keep hb
    clear hb
    go_wp2_with fail
    refine (HMost.out _).mono ?_
    rintro e w2 ⟨rfl, rfl⟩
    obtain ⟨L, hL⟩ : ∃ L, (plainL le).length = L := ⟨_, rfl⟩
    have hpl : pl le = L := hL
    have hL2 : L ≤ n2 := by rw [← hL, ← HN2.out]; exact plain_len le
    obtain ⟨M, hM⟩ : ∃ M, n / 2 = M := ⟨_, rfl⟩
    have hM2 : M ≤ n := by omega
    rw [hL, hM]
    have HD : Hid (n - n / 2 = n - M) := by unfold Hid; rw [hM]
    have HL := Lib.hid hpl
    clear hM hL hpl
    by_cases hgo : n - M < L
    · have j1 : (n : Int) - (M : Int) ≤ (L : Int) - 1 := by omega
      have HQ : Hid (plainL le ≠ []) := fun h0 => by
        have := HL.out
        unfold pl at this
        rw [h0] at this
        simp at this
        omega
      go_wp2_with fail
      refine (quoP_good ah le n1 n2 A1 A2 d1 d2 _ HN1 HN2 hr1 hr2 hd1 hd2 (by omega) (by omega) HQ).mono ?_
      rintro e w3 ⟨qa, rr, B1, B2, k1, k2, q1, q2, rfl, HK1, HK2, hq1, hq2, hra, hrr, hb3, HQQ⟩
      replace hB := below_step hB hb3
      replace hr1 := hr1.keep hb3
      replace hr2 := hr2.keep hb3
      replace hr3 := hr3.keep hb3
      replace hr5 := hr5.keep hb3
      have hk1 : k1 ≤ 100 := by
        have h1 := quo_pl HQQ.out.1 HE.out.less
        have h2 := HE.out.deg
        have h3 : pl qa = k1 := by unfold pl; rw [HQQ.out.2.1]; exact HK1.out
        omega
      have hk2 : k2 < n2 := by
        have h1 : pl rr < pl le := HQQ.out.1.2
        have h3 : pl rr = k2 := by unfold pl; rw [HQQ.out.2.2]; exact HK2.out
        have h4 := HL.out
        omega
      clear hb3
      go_wp2_with fail
      refine (mulP_any qa fi k1 n5 B1 A5 q1 d5 _ HK1 HN5 hra hr5 hq1 hd5 (by omega) (by omega)).mono ?_
      rintro e w4 ⟨A6, n6, d6, rfl, HN6, hd6, hr6, hb4⟩
      have hn6 : n6 ≤ 1000 := by
        have h1 := plain_len (mulL qa fi)
        have h2 : pl (mulL qa fi) ≤ pl qa + pl fi - 1 := pl_mul qa fi
        have h3 := pl_len qa
        have h4 := pl_len fi
        have h5 := HK1.out
        have h6 := HN5.out
        have h7 : pl (mulL qa fi) = n6 := HN6.out
        omega
      replace hB := below_step hB hb4
      replace hr2 := hr2.keep hb4
      replace hr3 := hr3.keep hb4
      replace hr5 := hr5.keep hb4
      replace hrr := hrr.keep hb4
      clear hb4
      go_wp2_with fail
      refine (addP_any fA (plainL (mulL qa fi)) n3 n6 A3 A6 d3 d6 _ HN3 HN6 hr3 hr6 hd3 hd6 (by omega) (by omega)).mono ?_
      rintro e w5 ⟨A7, n7, d7, rfl, HN7, hd7, hr7, hb5⟩
      have hf : Eqv (plainL (addL fA (plainL (mulL qa fi)))) (addL fA (mulL qa fi)) := (plain_eqv _).trans (add_congr (Eqv.refl _) (plain_eqv _))
      have HE2 := Lib.hid (HE.out.step HQQ.out.1 (by have := HL.out; have := HD.out; omega) hf)
      have hn7 : n7 ≤ 100 := by
        have h1 := HE2.out.deg
        have h2 : pl (plainL (addL fA (plainL (mulL qa fi)))) = n7 := by unfold pl; rw [plain_plain]; exact HN7.out
        omega
      have HREL2 : Hid (SolveR S n w (.slice A2 n2 d2) (.slice B2 k2 q2) (.slice A5 n5 d5) (.slice A7 n7 d7) w5) :=
        ⟨le, rr, fi, plainL (addL fA (plainL (mulL qa fi))), ⟨A2, n2, d2, rfl, HN2, hd2, hm2, hr2.keep hb5⟩, ⟨B2, k2, q2, rfl, HK2, hq2, by omega, hrr.keep hb5⟩, ⟨A5, n5, d5, rfl, HN5, hd5, hm5, hr5.keep hb5⟩, ⟨A7, n7, d7, rfl, HN7, hd7, hn7, hr7⟩, below_step hB hb5, HE2⟩
      clear hB hr2 hr3 hr5 hr1 hrr hra hr6 hr7 HE HE2 HQQ hf hb5
      go_wp2_with fail
      go_roundw
      case rel => exact HREL2.out
      case measure => simp [lenV] <;> omega
    · have j1 : ¬ (n : Int) - (M : Int) ≤ (L : Int) - 1 := by omega
      go_wp2_with fail
      go_ret2
      exact ⟨_, _, ah, le, fA, fi, rfl, ⟨A5, n5, d5, rfl, HN5, hd5, hm5, hr5⟩, ⟨A2, n2, d2, rfl, HN2, hd2, hm2, hr2⟩, hB, HE.out, by rw [HL.out, HD.out]; omega⟩

/-! ### amiss -/
theorem powZ_neg (p : Nat) (hp : p < 255) : powZ 2 (-(p : Int)) = rootB p := by
  unfold powZ
  rw [if_neg (by decide)]
  refine inv_unique _ _ ?_
  rw [← pow_add]
  by_cases h : p = 0
  · subst h
    rfl
  · have : ((-(p : Int)) % 255).toNat = 255 - p := by omega
    rw [this, show p + (255 - p) = 255 by omega, exp_255]
set_option maxHeartbeats 2000000 in
theorem amissM_any (f le : List UInt8) (p : Nat) (vf vl : Value) (w : World) (hp : p < 255) (hf : HasP w vf f) (hl : HasP w vl le) :
    Calls Tryd.prog 27 #[vf, vl, .int .i64 (p : Int)] w fun e w' => e = .returned (.int .u8 ((amB f le p).toNat : Int)) ∧ Below w.heap.size w w' := by
  obtain ⟨A1, n1, c1, rfl, HN1, hc1, hm1, hr1⟩ := hf
  obtain ⟨A2, n2, c2, rfl, HN2, hc2, hm2, hr2⟩ := hl
  have hx := gfexp_any (-(p : Int)) w
  rw [powZ_neg p hp] at hx
  have HX := Lib.hid hx
  have hw : IntKind.i64.wrap (-(p : Int)) = -(p : Int) := by rw [IntKind.wrap_i64]; omega
  clear hx
  obtain ⟨V, hV⟩ : ∃ V, amB f le p = V := ⟨_, rfl⟩
  rw [hV]
  unfold amB at hV
  generalize rootB p = r at HX hV
  obtain ⟨y, hy⟩ : ∃ y, evalL f r = y := ⟨_, rfl⟩
  have hEf := fun W (hW : Below w.heap.size w W) => evalP_any f r n1 A1 c1 W HN1 (hr1.keep hW) hc1 (by omega)
  rw [hy] at hEf hV
  have HEF := Lib.hid hEf
  have HV := Lib.hid hV
  clear hEf hy hV
  go_enter Tryd.func27, Tryd.ntmps27
  go_wp2_with fail
  refine HX.out.mono ?_
  rintro e w1 ⟨rfl, rfl⟩
  go_wp2_with fail
  refine (HEF.out _ (Below.refl _ _)).mono ?_
  rintro e w1 ⟨rfl, hb1⟩
  by_cases h0 : y = 0
  · subst h0
    have hV := HV.out
    rw [if_pos rfl] at hV
    clear HV
    replace hr1 := hr1.keep hb1
    replace hr2 := hr2.keep hb1
    have hB := hb1
    clear hb1
    go_wp2_with fail
    refine (slopeP_any f n1 A1 c1 _ HN1 hr1 hc1 (by omega)).mono ?_
    rintro e w2 ⟨A3, n3, c3, rfl, HN3, hc3, hr3, hb2⟩
    have hn3 : n3 ≤ 1000 := by
      rw [← HN3.out]
      have h1 := plain_len (slopeL f)
      have h2 : (plainL (slopeL f)).length ≤ f.length := (plain_le_iff _ _).2 fun k hk => by
        rw [co_slope]
        split
        · exact co_ge f _ (by omega)
        · rfl
      have := HN1.out
      omega
    have he : evalL (slopeL f) r = evalL (plainL (slopeL f)) r := (eval_congr (plain_eqv _) r).symm
    rw [he] at hV
    generalize plainL (slopeL f) = S at HN3 hr3 hV
    clear he
    replace hB := below_step hB hb2
    replace hr2 := hr2.keep hb2
    obtain ⟨z, hz⟩ : ∃ z, evalL S r = z := ⟨_, rfl⟩
    obtain ⟨u, hu⟩ : ∃ u, evalL le r = u := ⟨_, rfl⟩
    have hES := evalP_any S r n3 A3 c3 w2 HN3 hr3 hc3 (by omega)
    have hEL := fun W (hW : Below w2.heap.size w2 W) => evalP_any le r n2 A2 c2 W HN2 (hr2.keep hW) hc2 (by omega)
    rw [hz] at hES hV
    rw [hu] at hEL hV
    have HV := Lib.hid hV
    clear hV
    have HES := Lib.hid hES
    have HEL := Lib.hid hEL
    clear hES hEL hz hu hb2
    go_wp2_with fail
    refine HES.out.mono ?_
    rintro e w3 ⟨rfl, hb3⟩
    replace hB := below_step hB hb3
    by_cases hz : z = 0
    · subst hz
      have HV0 : Hid (V = 0) := by unfold Hid; rw [← HV.out, if_pos rfl]
      clear HV
      go_wp2_with fail
      refine (gfinv_zero _).mono ?_
      rintro e w4 ⟨rfl, rfl⟩
      go_wp2_with fail
      refine (HEL.out _ hb3).mono ?_
      rintro e w5 ⟨rfl, hb5⟩
      replace hB := below_step hB hb5
      have hm := gfmul_any u 0 w5
      rw [mul_zero] at hm
      have HMU := Lib.hid hm
      clear hm
      go_wp2_with fail
      refine HMU.out.mono ?_
      rintro e w6 ⟨rfl, rfl⟩
      go_wp2_with fail
      go_ret
      exact ⟨ret_int (by rw [HV0.out]; rfl), hB⟩
    · have HV0 : Hid (V = mulB u (invB z)) := by unfold Hid; rw [← HV.out, if_neg hz]
      clear HV
      go_wp2_with fail
      refine (gfinv_any z _ hz).mono ?_
      rintro e w4 ⟨rfl, rfl⟩
      go_wp2_with fail
      refine (HEL.out _ hb3).mono ?_
      rintro e w5 ⟨rfl, hb5⟩
      replace hB := below_step hB hb5
      go_wp2_with fail
      refine (gfmul_any u (invB z) _).mono ?_
      rintro e w6 ⟨rfl, rfl⟩
      go_wp2_with fail
      go_ret
      exact ⟨ret_int (by rw [HV0.out]), hB⟩
  · have HV0 : Hid (V = 0) := by unfold Hid; rw [← HV.out, if_neg h0]
    clear HV
    have hne : ((y.toNat : Int) != 0) = true := by
      rw [bne_iff_ne]
      intro e
      apply h0
      apply UInt8.toNat_inj.1
      rw [show (0 : UInt8).toNat = 0 from rfl]
      omega
    go_wp2_with fail
    go_ret
    exact ⟨ret_int (by rw [HV0.out]; rfl), hb1⟩

/-! ### Mend -/
/-- A call that hands back bytes, how many places, and an error. -/
def RetM (w : World) (s : List UInt8 × Nat × Int) (e : Ending) (w' : World) : Prop := ∃ A n c, e = .returned (.tuple #[.slice A n c, .int .i64 (s.2.1 : Int), .int .i64 s.2.2]) ∧ Hid (s.1.length = n) ∧ n ≤ c ∧ Rd vB w' A s.1 ∧ Below w.heap.size w w' ∧ ∀ a, A = some a → w.heap.size ≤ a.block
theorem RetM.to {w w' : World} {s : List UInt8 × Nat × Int} {e : Ending} (h : RetM w s e w') (l : List UInt8) (k : Nat) (kz err : Int) (hs : s = (l, k, err)) (hk : (k : Int) = kz) :
    ∃ A n c, e = .returned (.tuple #[.slice A n c, .int .i64 kz, .int .i64 err]) ∧ Hid (l.length = n) ∧ n ≤ c ∧ Rd vB w' A l ∧ Below w.heap.size w w' ∧ ∀ a, A = some a → w.heap.size ≤ a.block := by
  subst hs
  subst hk
  exact h
def MendR (b am : List UInt8) (g : Nat) (wb : World) (pv kv : Value) (wr : World) : Prop :=
  ∃ (j : Nat) (T : List UInt8), j ≤ b.length ∧ kv = .int .i64 (j : Int) ∧ pv = .int .i64 ((wtL (am.take j) : Nat) : Int) ∧ T.length = b.length ∧ (∀ i, i < b.length → co T i = if i < j then addB (co b i) (co am i) else co b i) ∧ Cel wr g 5 T ∧ Below wb.heap.size wb wr
set_option maxHeartbeats 2000000 in
theorem mendM_ok (b : List UInt8) (len n : Nat) (A : Option Addr) (c : Nat) (w : World) (HN : Hid (b.length = len)) (hr : Rd vB w A b) (hc : len ≤ c) (h1 : 1 ≤ n) (h2 : n ≤ 64) (h3 : n ≤ len) (h4 : len ≤ 255) :
    Calls Tryd.prog 15 #[.slice A len c, .int .i64 (n : Int)] w (RetM w (mendS b n)) := by
  obtain ⟨i0, hi, hz0, hz1, hz2⟩ := info_parts info_u8
  have e1 := HN.out
  subst e1
  have hE : errS b.length n = 0 := by unfold errS; rw [if_neg (by omega), if_neg (by omega), if_neg (by omega)]
  have HSI := Lib.hid (signsS_ok b b.length n A c w HN hr hc h1 h2 h3 h4)
  have HNear : Hid (∀ a, Near b n a → mendS b n = (a, difL b a, 0)) := fun a ha => mendS_near hE h4 ha
  have HMany : Hid ((∀ a, ¬ Near b n a) → mendS b n = ([], 0, 6)) := fun ha => mendS_many hE ha
  generalize mendS b n = R at HNear HMany ⊢
  clear hE
  go_enter Tryd.func15, Tryd.ntmps15
  go_wp2_with fail
  refine HSI.out.mono ?_
  rintro e w1 ⟨A1, n1, c1, rfl, HN1, hc1, hr1, hb1⟩
  have en1 : n1 = n := by rw [← HN1.out, signs_length]
  subst en1
  clear HSI
  go_wp2_with fail
  refine (solveM_any (signsL b n1) n1 A1 c1 w1 HN1 hr1 hc1 h1 h2).mono ?_
  rintro e w2 ⟨vf, vl, ah, le, fA, fi, rfl, hf, hle, hb2, HEU⟩
  obtain ⟨M, hM, hMl, hMd, hMn, hMu⟩ := mended_right h4 HEU.out.1 HEU.out.2
  obtain ⟨am, ham⟩ : ∃ am, amL fi le b.length = am := ⟨_, rfl⟩
  have hal : am.length = b.length := by rw [← ham]; exact am_length _ _ _
  have HCO : Hid (∀ j, j < b.length → amB fi le (b.length - 1 - j) = co am j) := fun j hj => by rw [← ham, co_am _ _ _ _ hj]
  rw [ham] at hM hMd
  have HM1 := Lib.hid hM
  have HM2 := Lib.hid hMd
  have HM3 := Lib.hid hMn
  have HM4 := Lib.hid hMu
  replace hr := hr.keep (below_step hb1 hb2)
  have hB := below_step hb1 hb2
  clear hr1 HEU HN1 ham hM hMd hMn hMu hb1 hb2
  go_wp2_with fail
  refine (clone_own b A c w2 hr (by omega)).mono ?_
  rintro e w3 ⟨v, rfl, ho, hb3⟩
  obtain ⟨A3, c3, rfl, hc3⟩ := own_form ho
  obtain ⟨g, rfl, hg, _⟩ := cel_of_own ho rfl (by omega)
  obtain ⟨hcel, _, hle3, hmax⟩ := celN_some ho rfl
  have hc0 := hcel.cel
  have hgw : w.heap.size ≤ g := Nat.le_trans hB.size hg
  clear ho hcel
  have hrel0 : MendR b am g w2 (.int .i64 0) (.int .i64 0) w3 := ⟨0, b, Nat.zero_le _, rfl, rfl, rfl, fun i hi => by rw [if_neg (Nat.not_lt_zero i)], hc0, hb3⟩
  have HREL := Lib.hid hrel0
  clear hrel0 hc0 hb3
  go_wp2_with fail
  go_loopw [12, 33] (fun p k wr => MendR b am g w2 p k wr) (fun _ k _ => b.length - (intOf k).toNat)
  case atStart => exact HREL.out
  case round =>
    clear HREL
    obtain ⟨j, T, hj, rfl, rfl, hT, hS, hcel, hbr⟩ := hrel
    have hf' := hf.keep hbr
    have hl' := hle.keep hbr
    by_cases h : j < b.length
    · have j1 : (j : Int) < (b.length : Int) := by omega
      have j0 : (0 : Int) ≤ (j : Int) := by omega
      obtain ⟨p, hp⟩ : ∃ p : Nat, p = b.length - 1 - j := ⟨_, rfl⟩
      have e1 : (b.length : Int) - 1 - (j : Int) = (p : Int) := by omega
      have hp2 : p < 255 := by omega
      have hA := amissM_any fi le p vf vl wr hp2 hf' hl'
      rw [hp, HCO.out j h] at hA
      rw [← hp] at hA
      have hkT : j < T.length := by omega
      have hSj := hS j h
      rw [if_neg (Nat.lt_irrefl j)] at hSj
      have hwt := wt_take am j (by omega)
      have hP255 : wtL (am.take (j + 1)) ≤ 255 := by have := wt_le (am.take (j + 1)); rw [List.length_take] at this; omega
      have HT1 : Hid (∀ (T' : List UInt8) (W : World), T'.length = b.length → (∀ i, i < b.length → co T' i = if i = j then addB (co b j) (co am j) else co T i) → Cel W g 5 T' → Below w2.heap.size w2 W → MendR b am g w2 (.int .i64 ((wtL (am.take (j + 1)) : Nat) : Int)) (.int .i64 ((j : Int) + 1)) W) := fun T' W t1 t2 t3 t4 =>
        ⟨j + 1, T', h, by go_num, rfl, t1, fun i hi => by
          rw [t2 i hi]
          by_cases e : i = j
          · subst e
            rw [if_pos rfl, if_pos (Nat.lt_succ_self i)]
          · rw [if_neg e, hS i hi]
            by_cases g1 : i < j
            · rw [if_pos g1, if_pos (by omega)]
            · rw [if_neg g1, if_neg (by omega)], t3, t4⟩
      generalize co am j = a at hA HT1 hwt
      generalize wtL (am.take j) = P0 at hwt ⊢
      generalize wtL (am.take (j + 1)) = P1 at hwt HT1 hP255
      have HA := Lib.hid hA
      have HSJ := Lib.hid hSj
      have HWT := Lib.hid hwt
      clear hA hS hp hSj hwt
      go_wp2_with fail
      refine HA.out.mono ?_
      rintro e w4 ⟨rfl, hb4⟩
      have hcel4 := hcel.later hb4
      have hB4 := below_step hbr hb4
      clear hcel hbr hf' hl' hb4 HA
      by_cases h0 : a = 0
      · subst h0
        have hP : P1 = P0 := by have := HWT.out; rw [if_pos rfl] at this; exact this
        subst hP
        have HR := Lib.hid (HT1.out T w4 hT (fun i hi => by
          by_cases e : i = j
          · subst e
            rw [if_pos rfl, HSJ.out, add_zero]
          · rw [if_neg e]) hcel4 hB4)
        clear HT1 HWT HSJ hcel4 hB4
        go_wp2_with fail
        go_roundw
        case rel => exact HR.out
        case measure => simp [intOf] <;> omega
      · have hne : ((a.toNat : Int) != 0) = true := by
          rw [bne_iff_ne]
          intro e
          apply h0
          apply UInt8.toNat_inj.1
          rw [show (0 : UInt8).toNat = 0 from rfl]
          omega
        have hP : ((P0 : Int) + 1) = (P1 : Int) := by have := HWT.out; rw [if_neg h0] at this; omega
        have hcj := hcel4.get j hkT
        rw [HSJ.out] at hcj
        have hfj := hcel4.frozen j
        have hcs := hcel4.set j (addB (co b j) a)
        have HR := fun hd => Lib.hid (HT1.out (T.set j (addB (co b j) a)) (w4.setCell ⟨g, j, none⟩ (.int .u8 ((addB (co b j) a).toNat : Int))) (by rw [List.length_set]; exact hT) (fun i hi => co_set T j i _ hkT) hcs hd)
        have HR2 := HR (hB4.setCell (p := ⟨g, j, none⟩) hg _)
        generalize co b j = bj at hcj HR2 HSJ hcs
        clear HT1 HWT HSJ hcel4 hcs hB4 HR
        go_wp2_with fail
        refine (gfadd_any bj a _).mono ?_
        rintro e w5 ⟨rfl, rfl⟩
        go_wp2_with fail
        go_roundw
        case rel => exact HR2.out
        case measure => simp [intOf] <;> omega
    · have ej : j = b.length := by omega
      subst ej
      have j1 : ¬ (b.length : Int) < (b.length : Int) := by omega
      have HT : Hid (T = M) := by
        unfold Hid
        rw [HM1.out]
        refine co_ext (by rw [hT, List.length_zipWith]; omega) (fun i hi => ?_)
        rw [hT] at hi
        rw [hS i hi, if_pos hi, co_zip _ _ _ hi (by omega)]
      have HW : Hid (wtL (am.take b.length) = difL b M) := by
        unfold Hid
        rw [HM2.out, ← hal, List.take_length]
      have e2 := HT.out
      subst e2
      rw [HW.out]
      have hrT := hcel.rd
      have hBw := below_step hB hbr
      have HTL := Lib.hid hT
      have hfin := fineS_any T b.length (n1 : Int) (some ⟨g, 0, none⟩) c3 wr HTL hrT hc3 (by omega)
      obtain ⟨F, hF⟩ : ∃ F, fineS T (n1 : Int) = F := ⟨_, rfl⟩
      have hiff := fineS_iff T n1 h1 h2 (by omega) (by omega)
      rw [hF] at hfin hiff
      have HFin := Lib.hid hfin
      have HIff := Lib.hid hiff
      obtain ⟨D, hD⟩ : ∃ D, difL b T = D := ⟨_, rfl⟩
      rw [hD]
      have HDD := Lib.hid hD
      clear hD
      clear hcel hS hbr hfin hiff hF hf' hl' hf hle hr hT hB HCO
      go_wp2_with fail
      refine HFin.out.mono ?_
      rintro e w6 ⟨rfl, hb6⟩
      have hB6 := below_step hBw hb6
      have hr6 := hrT.keep hb6
      cases F with
      | true =>
        have HRR : Hid (R = (T, difL b T, 0)) := HNear.out T (HM3.out (HIff.out.1 rfl))
        clear HNear HMany HM3 HM4 hBw hrT hb6
        go_wp2_with fail
        go_ret3
        rw [HRR.out, HDD.out]
        exact ⟨_, b.length, c3, rfl, HTL, hc3, hr6, hB6, fun a ha => by cases ha; exact hgw⟩
      | false =>
        have HRR : Hid (R = ([], 0, 6)) := HMany.out fun a ha => by
          have ea := HM4.out a ha
          subst ea
          have := HIff.out.2 ha.2.1
          cases this
        clear HNear HMany HM3 HM4 hBw hrT hb6
        go_wp2_with fail
        go_ret3
        rw [HRR.out]
        exact ⟨none, 0, 0, rfl, Lib.hid rfl, Nat.le_refl _, Rd.nil, hB6, fun a ha => by cases ha⟩
theorem mendM_no (b : List UInt8) (len : Nat) (n : Int) (A : Option Addr) (c : Nat) (w : World) (HN : Hid (b.length = len)) (hr : Rd vB w A b) (hc : len ≤ c) (hl : len ≤ 100000) (h : errS len n ≠ 0) :
    Calls Tryd.prog 15 #[.slice A len c, .int .i64 n] w (RetM w (mendS b n)) := by
  have HM := Lib.hid (signsS_no b len n A c w HN hr hc hl (Lib.hid h))
  rw [mendS_bad (by rw [HN.out]; exact h), HN.out]
  generalize errS len n = k at HM h ⊢
  have hk : (k != 0) = true := bne_iff_ne.2 h
  clear h
  go_enter Tryd.func15, Tryd.ntmps15
  go_wp2_with fail
  refine HM.out.mono ?_
  rintro e w1 ⟨A1, n1, c1, rfl, HN1, hc1, hr1, hb1⟩
  go_wp2_with fail
  go_ret3
  exact ⟨none, 0, 0, rfl, Lib.hid rfl, Nat.le_refl _, Rd.nil, hb1, fun a ha => by cases ha⟩
theorem mendM_any (b : List UInt8) (len : Nat) (n : Int) (A : Option Addr) (c : Nat) (w : World) (HN : Hid (b.length = len)) (hr : Rd vB w A b) (hc : len ≤ c) (hl : len ≤ 100000) :
    Calls Tryd.prog 15 #[.slice A len c, .int .i64 n] w (RetM w (mendS b n)) := by
  by_cases h : errS len n = 0
  · obtain ⟨m, rfl, h1, h2, h3, h4⟩ := errS_cases len n h
    exact mendM_ok b len m A c w HN hr hc h1 h2 h3 h4
  · exact mendM_no b len n A c w HN hr hc hl h
end Go.Proofs.YtcnjackbiimjdaaDoor
/-
  What the program's calls of layer 13 answer (fault, Make, Read), and what the statements' Told makes of an error. Condition: errors.errorType holds the handle of the type error (EtC).
-/
namespace Go.Proofs.YtcnjackbiimjdaaDoor
set_option maxRecDepth 100000
open Go.RowKit
set_option linter.unusedSimpArgs false
set_option linter.unusedVariables false

/-! ### Faults -/
/-- A fault in its block. -/
def Flt (W : World) (g : Nat) (s k : Int) : Prop := Row W g 56 [.int .i64 s, .iface 39 (.int .i64 k)]
theorem Flt.later {w w' : World} {g : Nat} {s k : Int} (h : Flt w g s k) (hb : Below w.heap.size w w') : Flt w' g s k := Row.later h hb
/-- What a call says of an error: the value, and the block of a fault. -/
abbrev errV (g : Nat) : Value := .iface 51 (.pointer (some ⟨g, 0, none⟩))
theorem size_flt : (Tryd.prog.info? 56).map (·.size) = some 2 := by kernel_rfl

set_option maxHeartbeats 2000000 in
theorem fault_ok (s : Int) (w : World) (hg : EtC w) :
    Calls Tryd.prog 12 #[.int .i64 s, .iface 39 (.int .i64 0)] w fun e w' => e = .returned .nilIface ∧ Below w.heap.size w w' := by
  go_enter Tryd.func12, Tryd.ntmps12
  go_upto_region 2 with fail
  have hgl := etC_lt hg
  have hb := below_new (Below.refl w.heap.size w) (.cells #[.int .i64 0] 39)
  have hR : Row (w.alloc (.cells #[.int .i64 0] 39)) w.heap.size 39 [.int .i64 0] := Row.new w _ _ _ rfl
  have hg1 := hg.later hb
  generalize w.alloc (.cells #[.int .i64 0] 39) = W1 at hb hR hg1 ⊢
  go_wp2_with fail
  refine (as_errno 0 ⟨w.heap.size, 0, none⟩ (.int .i64 0) W1 hg1 (one_row hR) (hR.frozen 0)).mono ?_
  rintro e w2 ⟨rfl, hw2⟩
  obtain ⟨hR2, hb2⟩ := asR hR hw2
  replace hb := below_only hb hb2 (Nat.le_refl _)
  clear hw2 hb2
  have c0 := one_row hR2
  go_wp2_with fail
  go_ret
  exact ⟨rfl, hb⟩
set_option maxHeartbeats 2000000 in
theorem fault_no (s k : Int) (w : World) (hg : EtC w) (hk : k ≠ 0) :
    Calls Tryd.prog 12 #[.int .i64 s, .iface 39 (.int .i64 k)] w fun e w' => ∃ g, e = .returned (errV g) ∧ Flt w' g s k ∧ Below w.heap.size w w' ∧ w.heap.size ≤ g := by
  have hk0 : (k == 0) = false := beq_eq_false_iff_ne.2 hk
  have hk1 : (k != 0) = true := by rw [bne, hk0]; rfl
  go_enter Tryd.func12, Tryd.ntmps12
  go_upto_region 2 with fail
  have hgl := etC_lt hg
  have hb := below_new (Below.refl w.heap.size w) (.cells #[.int .i64 0] 39)
  have hR : Row (w.alloc (.cells #[.int .i64 0] 39)) w.heap.size 39 [.int .i64 0] := Row.new w _ _ _ rfl
  have hg1 := hg.later hb
  generalize w.alloc (.cells #[.int .i64 0] 39) = W1 at hb hR hg1 ⊢
  go_wp2_with fail
  refine (as_errno k ⟨w.heap.size, 0, none⟩ (.int .i64 0) W1 hg1 (one_row hR) (hR.frozen 0)).mono ?_
  rintro e w2 ⟨rfl, hw2⟩
  obtain ⟨hR2, hb2⟩ := asR hR hw2
  replace hb := below_only hb hb2 (Nat.le_refl _)
  clear hw2 hb2
  have c0 := one_row hR2
  go_wp2_with fail
  go_ret
  exact ⟨_, rfl, Row.new w2 _ _ _ rfl, below_new hb _, hb.size⟩

/-! ### Told -/
theorem told_nil (w : World) : Calls Tryd.prog 10 #[.nilIface] w fun e w' => e = .returned (.tuple #[.int .i64 0, .int .i64 0]) ∧ Below w.heap.size w w' := by
  go_enter Tryd.func10, Tryd.ntmps10
  go_wp2
  go_ret2
  exact ⟨rfl, Below.refl _ _⟩
set_option maxHeartbeats 4000000 in
theorem told_flt (g : Nat) (s k : Int) (w : World) (hg : EtC w) (hF : Flt w g s k) :
    Calls Tryd.prog 10 #[errV g] w fun e w' => e = .returned (.tuple #[.int .i64 s, .int .i64 k]) ∧ Below w.heap.size w w' := by
  unfold errV
  go_enter Tryd.func10, Tryd.ntmps10
  go_upto_region 5 with fail
  have hgl := etC_lt hg
  have hgF := Row.lt hF
  have hR1 : Row (w.alloc (.cells #[.pointer none] 51)) w.heap.size 51 [.pointer none] := Row.new w _ _ _ rfl
  have hR2 : Row ((w.alloc (.cells #[.pointer none] 51)).alloc (.cells #[.int .i64 0] 39)) (w.heap.size + 1) 39 [.int .i64 0] := Row.new_at _ _ (by simp) _ _ _ rfl
  replace hR1 := hR1.alloc (.cells #[.int .i64 0] 39)
  have hb := below_new (below_new (Below.refl w.heap.size w) (.cells #[.pointer none] 51)) (.cells #[.int .i64 0] 39)
  generalize (w.alloc (.cells #[.pointer none] 51)).alloc (.cells #[.int .i64 0] 39) = W1 at hR1 hR2 hb ⊢
  have hg1 := hg.later hb
  have hF1 := hF.later hb
  go_wp2_with fail
  refine (as_fault ⟨g, 0, none⟩ ⟨w.heap.size, 0, none⟩ (.pointer none) W1 hg1 (one_row hR1) (hR1.frozen 0)).mono ?_
  rintro e w2 ⟨rfl, hw2⟩
  obtain ⟨hR3, ho⟩ := asR hR1 hw2
  have hg2 := hg1.only ho (by omega)
  have hF2 : Flt w2 g s k := (ho.other g (by omega) (Row.lt hF1)).trans hF1
  have hR4 : Row w2 (w.heap.size + 1) 39 [.int .i64 0] := (ho.other _ (by omega) hR2.lt).trans hR2
  replace hb := below_only hb ho (Nat.le_refl _)
  clear hw2 hR1 hR2 hg1 hF1 ho
  have hf1 : w2.cell? ⟨g, 1, none⟩ = some (.iface 39 (.int .i64 k)) := Row.cell hF2 rfl
  go_wp2_with fail
  refine (as_through k g ⟨w.heap.size + 1, 0, none⟩ (.int .i64 0) w2 hf1 hg2 (one_row hR4) (hR4.frozen 0)).mono ?_
  rintro e w3 ⟨rfl, hw3⟩
  obtain ⟨hR5, ho⟩ := asR hR4 hw3
  have hF3 : Flt w3 g s k := (ho.other g (by omega) (Row.lt hF2)).trans hF2
  have hR6 : Row w3 w.heap.size 51 [.pointer (some ⟨g, 0, none⟩)] := (ho.other _ (by omega) hR3.lt).trans hR3
  replace hb := below_only hb ho (by omega)
  clear hw3 hR3 hR4 hg2 hF2 hf1 ho
  have c0 := one_row hR6
  have c1 := one_row hR5
  have c2 : w3.cell? ⟨g, 0, none⟩ = some (.int .i64 s) := Row.cell hF3 rfl
  go_wp2_with fail
  go_upto_region 7 with fail
  go_region
  all_goals go_wp2_with fail
  all_goals go_ret2
  all_goals exact ⟨rfl, hb.drew⟩

/-! ### Make -/
set_option maxHeartbeats 4000000 in
theorem makeB_ok (t e c : Nat) (tag : List UInt8) (A : Option Addr) (k : Nat) (w : World) (ht : t < 18446744073709551616) (he : e < 18446744073709551616) (hc : c < 18446744073709551616) (HN : Hid (tag.length = 8)) (hr : Rd vB w A tag) (hk : 8 ≤ k) (hg : EtC w) :
    Calls Tryd.prog 6 #[aggP t e c A 8 k] w fun e₁ w' => ∃ A' n c', e₁ = .returned (.tuple #[.slice A' n c', .nilIface]) ∧ Hid ((barL t e c tag).length = n) ∧ n ≤ c' ∧ Rd vB w' A' (barL t e c tag) ∧ Below w.heap.size w w' := by
  obtain ⟨hR0, hB0⟩ := box_pay w 25 (.int .u64 (t : Int)) (.int .u64 (e : Int)) (.int .u64 (c : Int)) (.slice A 8 k)
  unfold aggP
  go_enter Tryd.func6, Tryd.ntmps6
  go_upto_region 1 with fail
  generalize (w.alloc (.cells #[.int .u64 (t : Int), .int .u64 (e : Int), .int .u64 (c : Int), .slice A 8 k] 25)) = W0 at hR0 hB0 ⊢
  replace hg := hg.later hB0
  go_wp2_with (refine wpList_load_part rfl 25 (.tmp 1) rfl w.heap.size 0 rfl _ _ hR0 [.int .u64 (t : Int), .int .u64 (e : Int), .int .u64 (c : Int), .slice A 8 k] (by rfl) _ Tryd.underlying25 rfl (by exact size_pay') ?_)
  refine (writeP_ok t e c tag A k _ ht he hc HN (hr.keep hB0) hk).mono ?_
  rintro e₁ w1 ⟨A1, n1, c1, rfl, HN1, hc1, hr1, hb⟩
  have HL := Lib.hid (stuffed_length (t := t) (e := e) (c := c) HN.out)
  have HW := Lib.hid (write_length t e c tag HN.out)
  replace hg := hg.later hb
  replace hB0 := below_step hB0 hb
  clear hb hR0 hr ht he hc
  go_upto_region 2 with fail
  go_wp2_with fail
  refine (fault_ok 3 _ hg).mono ?_
  rintro e₁ w2 ⟨rfl, hb⟩
  replace hg := hg.later hb
  replace hr1 := hr1.keep hb
  replace hB0 := below_step hB0 hb
  clear hb
  go_wp2_with fail
  refine (putF_any (writeF t e c tag) n1 A1 c1 _ HN1 hr1 hc1 (by have := HW.out; have := HN1.out; omega)).mono ?_
  rintro e₁ w3 ⟨A3, n3, c3, rfl, HN3, hc3, hr3, hb⟩
  replace hB0 := below_step hB0 hb
  clear hb hr1
  go_wp2_with fail
  refine (putS_ok (putT (writeF t e c tag)) n3 10 A3 c3 _ HN3 hr3 hc3 (by omega) (by omega) (by have := HL.out; have := HN3.out; omega)).mono ?_
  rintro e₁ w4 ⟨A4, n4, c4, rfl, HN4, hc4, hr4, hb⟩
  replace hB0 := below_step hB0 hb
  clear hb hr3
  go_wp2_with fail
  go_ret2
  exact ⟨A4, n4, c4, rfl, HN4, hc4, hr4, hB0⟩
set_option maxHeartbeats 4000000 in
theorem makeB_no (t e c : Nat) (tag : List UInt8) (n : Nat) (A : Option Addr) (k : Nat) (w : World) (ht : t < 18446744073709551616) (he : e < 18446744073709551616) (hc : c < 18446744073709551616) (HN : Hid (tag.length = n)) (hr : Rd vB w A tag) (hk : n ≤ k) (hn : n ≤ 100000) (h8 : n ≠ 8) (hg : EtC w) :
    Calls Tryd.prog 6 #[aggP t e c A n k] w fun e₁ w' => ∃ g, e₁ = .returned (.tuple #[.slice none 0 0, errV g]) ∧ Flt w' g 3 1 ∧ Below w.heap.size w w' := by
  obtain ⟨hR0, hB0⟩ := box_pay w 25 (.int .u64 (t : Int)) (.int .u64 (e : Int)) (.int .u64 (c : Int)) (.slice A n k)
  unfold aggP
  go_enter Tryd.func6, Tryd.ntmps6
  go_upto_region 1 with fail
  generalize (w.alloc (.cells #[.int .u64 (t : Int), .int .u64 (e : Int), .int .u64 (c : Int), .slice A n k] 25)) = W0 at hR0 hB0 ⊢
  replace hg := hg.later hB0
  go_wp2_with (refine wpList_load_part rfl 25 (.tmp 1) rfl w.heap.size 0 rfl _ _ hR0 [.int .u64 (t : Int), .int .u64 (e : Int), .int .u64 (c : Int), .slice A n k] (by rfl) _ Tryd.underlying25 rfl (by exact size_pay') ?_)
  refine (writeP_no t e c tag n A k _ ht he hc HN (hr.keep hB0) hk hn h8).mono ?_
  rintro e₁ w1 ⟨A1, n1, c1, rfl, HN1, hc1, hr1, hb⟩
  replace hg := hg.later hb
  replace hB0 := below_step hB0 hb
  clear hb hR0 hr ht he hc h8
  go_upto_region 2 with fail
  go_wp2_with fail
  refine (fault_no 3 1 _ hg (by omega)).mono ?_
  rintro e₁ w2 ⟨g, rfl, hF, hb, hgg⟩
  replace hB0 := below_step hB0 hb
  clear hb
  go_wp2_with fail
  go_ret2
  exact ⟨g, rfl, hF, hB0⟩

/-! ### Read -/
theorem results_cell_tmp2 {fn : Func} {p u v : Tmp} {ty : TypeId} (h : fn.results = #[.cell p ty, .tmp u, .tmp v]) (tmps : Array Value) (P : Program) (w : World) :
    (results fn tmps).run P w = ((asAddr (tmps.getD p undef)).run P w).andThen fun a w₁ => ((loadVar ty a).run P w₁).andThen fun x w₂ => .ok (.tuple #[x, tmps.getD u undef, tmps.getD v undef]) w₂ := by
  simp only [results, h]
  simp [Sem.run_bind, Result.andThen]
theorem results_row_tmp2 {P : Program} {fn : Func} {p u v : Tmp} {ty : TypeId} (h : fn.results = #[.cell p ty, .tmp u, .tmp v]) (tmps : Array Value) (w : World) (g : Nat) (t : TypeId) (l : List Value) (d : TypeDesc) (hp : tmps.getD p undef = .pointer (some ⟨g, 0, none⟩)) (hg : Row w g t l)
    (hu : P.underlying ty = some d) (hd : d.isRow = true) (hi : (P.info? ty).map (·.size) = some l.length) : (results fn tmps).run P w = .ok (.tuple #[.agg l.toArray, tmps.getD u undef, tmps.getD v undef]) w := by
  rw [results_cell_tmp2 h, hp]
  simp only [asAddr, Sem.run_pure, Result.andThen_ok, hg.loadVar (P := P) ty d hu hd hi]
/-- What a call says of an error: nil, or a fault in its block. -/
def ErrV (W : World) (v : Value) (s k : Int) : Prop := (k = 0 ∧ v = .nilIface) ∨ (k ≠ 0 ∧ ∃ g, v = errV g ∧ Flt W g s k)
def RetBar (w : World) (X : (Int × Nat × Nat × Nat × List UInt8) × Nat × Int) (e : Ending) (w' : World) : Prop :=
  ∃ A n k ev, e = .returned (.tuple #[aggP X.1.2.1 X.1.2.2.1 X.1.2.2.2.1 A n k, .int .i64 (X.2.1 : Int), ev]) ∧ Hid (X.1.2.2.2.2.length = n) ∧ n ≤ k ∧ Rd vB w' A X.1.2.2.2.2 ∧ Below w.heap.size w w' ∧ ErrV w' ev X.2.2 X.1.1
/-- How a fault is handed back: the payload's block as it was laid. -/
theorem retbar_no {w w' : World} {X : (Int × Nat × Nat × Nat × List UInt8) × Nat × Int} {s k : Int} {g : Nat} (hX : Hid (X = ((k, 0, 0, 0, []), 0, s))) (hk : k ≠ 0) (hF : Flt w' g s k) (hb : Below w.heap.size w w') : RetBar w X (.returned (.tuple #[aggP 0 0 0 none 0 0, .int .i64 0, errV g])) w' := by
  rw [hX.out]
  exact ⟨none, 0, 0, _, rfl, Lib.hid rfl, Nat.le_refl _, Rd.nil, hb, .inr ⟨hk, g, rfl, hF⟩⟩
theorem data_rd {W : World} {A : Option Addr} {m : List UInt8} (h : Rd vB W A m) : Rd vB W A (dataL m) := h.take (m.length - 10)
/-- No byte lies in a payload's block as it was laid. -/
theorem pay_apart {W : World} {g : Nat} {t : TypeId} {A : Option Addr} {l : List UInt8} (hR : Row W g t [.int .u64 0, .int .u64 0, .int .u64 0, .slice none 0 0]) (hr : Rd vB W A l) : l ≠ [] → ∀ a, A = some a → a.block ≠ g := fun hn a ha hg => by
  obtain ⟨b, o, rfl, hc⟩ := hr hn
  injection ha with ha
  subst ha
  have e : b = g := hg
  subst e
  have h0 := hc 0 (List.length_pos_iff.2 hn)
  rw [Nat.add_zero, hR.cell? o] at h0
  match o with
  | 0 => simp [vB] at h0
  | 1 => simp [vB] at h0
  | 2 => simp [vB] at h0
  | 3 => simp [vB] at h0
  | o + 4 => simp at h0
set_option maxHeartbeats 8000000 in
theorem readB_any (b : List UInt8) (len : Nat) (A : Option Addr) (c : Nat) (w : World) (HN : Hid (b.length = len)) (hr : Rd vB w A b) (hc : len ≤ c) (hl : len ≤ 10000) (hg : EtC w) :
    Calls Tryd.prog 8 #[.slice A len c] w (RetBar w (barsL b)) := by
  obtain ⟨X, hX⟩ : ∃ X, barsL b = X := ⟨_, rfl⟩
  rw [hX]
  replace hX := Lib.hid hX
  obtain ⟨hR0, hB0⟩ := box_pay w 25 (.int .u64 0) (.int .u64 0) (.int .u64 0) (.slice none 0 0)
  go_enter Tryd.func8, Tryd.ntmps8
  go_upto_region 1 with fail
  generalize (w.alloc (.cells #[.int .u64 0, .int .u64 0, .int .u64 0, .slice none 0 0] 25)) = W0 at hR0 hB0 ⊢
  replace hr := hr.keep hB0
  replace hg := hg.later hB0
  go_wp2_with fail
  refine (mendM_any b len 10 A c W0 HN hr hc (by omega)).mono ?_
  obtain ⟨m, pl, k, hS⟩ : ∃ m pl k, mendS b 10 = (m, pl, k) := ⟨_, _, _, rfl⟩
  rw [hS]
  rintro e₁ w1 ⟨A1, n1, c1, rfl, HN1, hc1, hr1, hb, _⟩
  dsimp only at HN1 hr1 ⊢
  have HS := Lib.hid hS
  have HM := Lib.hid (mend_length b)
  clear hS
  replace hg := hg.later hb
  replace hR0 := hR0.later hb
  replace hB0 := below_step hB0 hb
  clear hb hr
  go_upto_region 2 with fail
  by_cases hk : k = 0
  · subst hk
    obtain ⟨hm1, hm2, hm3⟩ : 10 ≤ n1 ∧ n1 = len ∧ len ≤ 255 := by
      have := HM.out (by rw [HS.out])
      rw [HS.out, HN.out] at this
      dsimp only at this
      rw [HN1.out] at this
      exact this
    obtain ⟨n2, rfl⟩ : ∃ n2, n1 = n2 + 10 := ⟨n1 - 10, by omega⟩
    have HX : Hid (X = gotL (dataL m) pl) := by
      unfold Hid
      rw [← hX.out]
      unfold barsL
      rw [HS.out, if_pos rfl]
    have HD : Hid ((dataL m).length = n2) := by
      unfold Hid dataL
      rw [List.length_take, HN1.out]
      omega
    have h2 : n2 ≤ 245 := by omega
    clear hX HM HS hm1 hm2 hm3
    go_wp2_with fail
    refine (fault_ok 1 _ hg).mono ?_
    rintro e₁ w2 ⟨rfl, hb⟩
    replace hg := hg.later hb
    replace hr1 := data_rd (hr1.keep hb)
    replace hR0 := hR0.later hb
    replace hB0 := below_step hB0 hb
    clear hb HN1
    go_upto_region 5 with fail
    generalize dataL m = d at HX HD hr1
    by_cases hq : putT (candL d) = d
    · have HG : Hid (X = if (readF (candL d)).1 = 0 then (readF (candL d), pl, 0) else (readF (candL d), 0, 3)) := by
        unfold Hid
        rw [HX.out]
        unfold gotL
        rw [if_pos hq]
      have HL : Hid ((candL d).length ≤ n2) := by
        have := (put_length (candL d)).1
        rw [hq, HD.out] at this
        exact this
      go_wp2_with fail
      refine (getF_ok d n2 A1 c1 _ HD hr1 (by omega) (by omega) (Lib.hid hq)).mono ?_
      rintro e₁ w3 ⟨A3, n3, c3, rfl, HN3, hc3, hr3, hb⟩
      replace hg := hg.later hb
      replace hR0 := hR0.later hb
      replace hB0 := below_step hB0 hb
      clear hb hr1 HX
      have h3 : n3 ≤ 245 := by have := HL.out; rw [HN3.out] at this; omega
      generalize candL d = q at HG HL HN3 hr3
      clear hq HD HL
      go_upto_region 6 with fail
      go_wp2_with fail
      refine (fault_ok 2 _ hg).mono ?_
      rintro e₁ w4 ⟨rfl, hb⟩
      replace hg := hg.later hb
      replace hr3 := hr3.keep hb
      replace hR0 := hR0.later hb
      replace hB0 := below_step hB0 hb
      clear hb
      go_wp2_with fail
      refine (readP_any q n3 A3 c3 _ HN3 hr3 hc3 (by omega)).mono ?_
      obtain ⟨k5, t, e, c', tag, hF⟩ : ∃ k t e c tag, readF q = (k, t, e, c, tag) := ⟨_, _, _, _, _, rfl⟩
      have hbad : k5 ≠ 0 → (t = 0 ∧ e = 0 ∧ c' = 0 ∧ tag = []) := fun h => by
        have := readF_bad q (by rw [hF]; exact h)
        rw [hF] at this
        simpa using this
      rw [hF] at HG ⊢
      rintro e₁ w5 ⟨A5, n5, c5, rfl, HN5, hc5, hr5, hb⟩
      dsimp only at HN5 hr5 HG ⊢
      replace hg := hg.later hb
      replace hR0 := hR0.later hb
      replace hB0 := below_step hB0 hb
      clear hb hr3 hF HN3
      have hRn : Row (w5.alloc (.cells #[.int .u64 0, .int .u64 0, .int .u64 0, .slice none 0 0] 25)) w5.heap.size 25 [.int .u64 0, .int .u64 0, .int .u64 0, .slice none 0 0] := Row.new w5 _ _ _ rfl
      go_upto_region 10 with (refine wpList_store_row rfl 25 (.tmp 11) (.tmp 45) rfl w5.heap.size rfl [.int .u64 (t : Int), .int .u64 (e : Int), .int .u64 (c' : Int), .slice A5 n5 c5] rfl _ _ hRn (by exact size_pay') rfl (one_four _ _ _ _ rfl rfl rfl rfl) ?_)
      have hRp := hRn.setRow [.int .u64 (t : Int), .int .u64 (e : Int), .int .u64 (c' : Int), .slice A5 n5 c5]
      have hb2 : Below w5.heap.size w5 ((w5.alloc (.cells #[.int .u64 0, .int .u64 0, .int .u64 0, .slice none 0 0] 25)).setRow w5.heap.size [.int .u64 (t : Int), .int .u64 (e : Int), .int .u64 (c' : Int), .slice A5 n5 c5].toArray) := below_setRow (below_new (Below.refl _ _) _) (Nat.le_refl _) _
      have hgw := hR0.lt
      have hoff := hr5.off
      replace hg := hg.later hb2
      replace hr5 := hr5.keep hb2
      replace hR0 := hR0.later hb2
      replace hB0 := below_step hB0 hb2
      generalize (w5.alloc (.cells #[.int .u64 0, .int .u64 0, .int .u64 0, .slice none 0 0] 25)).setRow w5.heap.size [.int .u64 (t : Int), .int .u64 (e : Int), .int .u64 (c' : Int), .slice A5 n5 c5].toArray = W6 at hg hr5 hR0 hB0 hRp ⊢
      generalize w5.heap.size = gp at hRp hgw hoff ⊢
      clear hRn hb2
      by_cases hk5 : k5 = 0
      · subst hk5
        rw [if_pos rfl] at HG
        go_wp2_with fail
        refine (fault_ok 3 _ hg).mono ?_
        rintro e₁ w7 ⟨rfl, hb⟩
        replace hg := hg.later hb
        replace hr5 := hr5.keep hb
        replace hR0 := hR0.later hb
        replace hRp := hRp.later hb
        replace hB0 := below_step hB0 hb
        clear hb
        have hap := pay_apart hR0 hr5
        go_wp2_with (first
          | (refine wpList_load_part rfl 25 (.tmp 11) rfl gp 0 rfl _ _ hRp [.int .u64 (t : Int), .int .u64 (e : Int), .int .u64 (c' : Int), .slice A5 n5 c5] (by rfl) _ Tryd.underlying25 rfl (by exact size_pay') ?_)
          | (refine wpList_store_row rfl 25 (.tmp 2) (.tmp 54) rfl w.heap.size rfl [.int .u64 (t : Int), .int .u64 (e : Int), .int .u64 (c' : Int), .slice A5 n5 c5] rfl _ _ hR0 (by exact size_pay') rfl (one_four _ _ _ _ rfl rfl rfl rfl) ?_))
        refine bodyPost_ret (results_row_tmp2 (p := 2) (u := 3) (v := 4) (ty := 25) (by rfl) _ _ w.heap.size 25 _ _ (by rfl) (by exact hR0.setRow _) Tryd.underlying25 (by rfl) (by exact size_pay')) (by rfl) ?_
        rw [HG.out]
        exact ⟨A5, n5, c5, .nilIface, rfl, HN5, hc5, hr5.only ((Only.refl w.heap.size _).setRow _) hap, below_setRow hB0 (Nat.le_refl _) _, .inl ⟨rfl, rfl⟩⟩
      · obtain ⟨rfl, rfl, rfl, rfl⟩ := hbad hk5
        rw [if_neg hk5] at HG
        go_wp2_with fail
        refine (fault_no 3 k5 _ hg hk5).mono ?_
        rintro e₁ w7 ⟨g, rfl, hF, hb, hgg⟩
        have hgw := hR0.lt
        replace hR0 := hR0.later hb
        replace hB0 := below_step hB0 hb
        clear hb
        go_upto_region 12 with fail
        go_wp2_with (refine wpList_store_row rfl 25 (.tmp 2) (.tmp 52) rfl w.heap.size rfl [.int .u64 0, .int .u64 0, .int .u64 0, .slice none 0 0] rfl _ _ hR0 (by exact size_pay') rfl (one_four _ _ _ _ rfl rfl rfl rfl) ?_)
        refine bodyPost_ret (results_row_tmp2 (p := 2) (u := 3) (v := 4) (ty := 25) (by rfl) _ _ w.heap.size 25 _ _ (by rfl) (by exact hR0.setRow _) Tryd.underlying25 (by rfl) (by exact size_pay')) (by rfl) ?_
        exact retbar_no HG hk5 (Row.setRow_other hF (by omega) _) (below_setRow hB0 (Nat.le_refl _) _)
    · have HG : Hid (X = ((3, 0, 0, 0, []), 0, 2)) := by
        unfold Hid
        rw [HX.out]
        unfold gotL
        rw [if_neg hq]
      go_wp2_with fail
      refine (getF_no d n2 A1 c1 _ HD hr1 (by omega) (by omega) (Lib.hid hq)).mono ?_
      rintro e₁ w3 ⟨A3, n3, c3, rfl, HN3, hc3, hr3, hb⟩
      replace hg := hg.later hb
      replace hR0 := hR0.later hb
      replace hB0 := below_step hB0 hb
      clear hb hr1 HX
      go_upto_region 6 with fail
      go_wp2_with fail
      refine (fault_no 2 3 _ hg (by omega)).mono ?_
      rintro e₁ w4 ⟨g, rfl, hF, hb, hgg⟩
      have hgw := hR0.lt
      replace hR0 := hR0.later hb
      replace hB0 := below_step hB0 hb
      clear hb
      go_upto_region 8 with fail
      go_wp2_with (refine wpList_store_row rfl 25 (.tmp 2) (.tmp 40) rfl w.heap.size rfl [.int .u64 0, .int .u64 0, .int .u64 0, .slice none 0 0] rfl _ _ hR0 (by exact size_pay') rfl (one_four _ _ _ _ rfl rfl rfl rfl) ?_)
      refine bodyPost_ret (results_row_tmp2 (p := 2) (u := 3) (v := 4) (ty := 25) (by rfl) _ _ w.heap.size 25 _ _ (by rfl) (by exact hR0.setRow _) Tryd.underlying25 (by rfl) (by exact size_pay')) (by rfl) ?_
      exact retbar_no HG (by omega) (Row.setRow_other hF (by omega) _) (below_setRow hB0 (Nat.le_refl _) _)
  · go_wp2_with fail
    refine (fault_no 1 k _ hg hk).mono ?_
    rintro e₁ w2 ⟨g, rfl, hF, hb, hgg⟩
    have hgw := hR0.lt
    replace hR0 := hR0.later hb
    replace hB0 := below_step hB0 hb
    clear hb
    have HX : Hid (X = ((k, 0, 0, 0, []), 0, 1)) := by
      unfold Hid
      rw [← hX.out]
      unfold barsL
      rw [HS.out, if_neg hk]
    clear hX HM HS
    go_upto_region 4 with fail
    go_wp2_with (refine wpList_store_row rfl 25 (.tmp 2) (.tmp 24) rfl w.heap.size rfl [.int .u64 0, .int .u64 0, .int .u64 0, .slice none 0 0] rfl _ _ hR0 (by exact size_pay') rfl (one_four _ _ _ _ rfl rfl rfl rfl) ?_)
    refine bodyPost_ret (results_row_tmp2 (p := 2) (u := 3) (v := 4) (ty := 25) (by rfl) _ _ w.heap.size 25 _ _ (by rfl) (by exact hR0.setRow _) Tryd.underlying25 (by rfl) (by exact size_pay')) (by rfl) ?_
    exact retbar_no HX hk (Row.setRow_other hF (by omega) _) (below_setRow hB0 (Nat.le_refl _) _)
/-- Its two ways. -/
theorem readB_ok (b : List UInt8) (t e c : Nat) (tag : List UInt8) (n : Nat) (len : Nat) (A : Option Addr) (cap : Nat) (w : World) (HN : Hid (b.length = len)) (hr : Rd vB w A b) (hc : len ≤ cap) (hl : len ≤ 10000) (hg : EtC w) (H : Hid (barsL b = ((0, t, e, c, tag), n, 0))) :
    Calls Tryd.prog 8 #[.slice A len cap] w fun e₁ w' => ∃ A' m k, e₁ = .returned (.tuple #[aggP t e c A' m k, .int .i64 (n : Int), .nilIface]) ∧ Hid (tag.length = m) ∧ m ≤ k ∧ Rd vB w' A' tag ∧ Below w.heap.size w w' := by
  refine (readB_any b len A cap w HN hr hc hl hg).mono ?_
  rw [H.out]
  rintro e₁ w' ⟨A', m, k, ev, rfl, h1, h2, h3, h4, h5⟩
  rcases h5 with ⟨_, rfl⟩ | ⟨h, _⟩
  · exact ⟨A', m, k, rfl, h1, h2, h3, h4⟩
  · exact absurd rfl h
theorem readB_no (b : List UInt8) (k s : Int) (len : Nat) (A : Option Addr) (cap : Nat) (w : World) (HN : Hid (b.length = len)) (hr : Rd vB w A b) (hc : len ≤ cap) (hl : len ≤ 10000) (hg : EtC w) (H : Hid (barsL b = ((k, 0, 0, 0, []), 0, s))) (hk : k ≠ 0) :
    Calls Tryd.prog 8 #[.slice A len cap] w fun e₁ w' => ∃ A' c' g, e₁ = .returned (.tuple #[aggP 0 0 0 A' 0 c', .int .i64 0, errV g]) ∧ Flt w' g s k ∧ Below w.heap.size w w' := by
  refine (readB_any b len A cap w HN hr hc hl hg).mono ?_
  rw [H.out]
  rintro e₁ w' ⟨A', m, c', ev, rfl, h1, h2, h3, h4, h5⟩
  have hm : m = 0 := h1.out.symm
  subst hm
  rcases h5 with ⟨h, _⟩ | ⟨_, g, rfl, hF⟩
  · exact absurd h hk
  · exact ⟨A', c', g, rfl, hF, h4⟩
end Go.Proofs.YtcnjackbiimjdaaDoor
/-
  A literal's bytes, converted to their own type: a row with a frozen mark reads as the bytes did (no program is named here). No conditions but those typed.
-/
namespace Go.Proofs.YtcnjackbiimjdaaDoor
set_option maxRecDepth 100000
open Go.RowKit

theorem Rd.new_fr {α : Type} {f : α → Value} (w : World) (g : Nat) (hg : g = w.heap.size) (l : List α) (cs : Array Value) (e : TypeId) (fr : Nat × Nat) (h : cs = (l.map f).toArray) : Rd f (w.alloc (.cells cs e fr)) (some ⟨g, 0, none⟩) l := fun _ => by
  subst hg
  refine ⟨w.heap.size, 0, rfl, fun i hi => ?_⟩
  subst h
  rw [cell_of_row _ w.heap.size (0 + i) _ e fr (heap_alloc_new w _)]
  simp [hi]
end Go.Proofs.YtcnjackbiimjdaaDoor
