/-
  What the program's calls Degree, cut and Eval of layer 8 answer. No conditions but those typed.
-/
import Derived.Test.YtankddeolpickaaBack
import Derived.Test.YtankddeolpickaaPolyQuo0
import Derived.Test.YtankddeolpickaaGfCalls
namespace Go.Proofs.Ytankddeolpickaa
set_option maxRecDepth 100000
open Go.RowKit Go.Shelf
set_option linter.unusedSimpArgs false
set_option linter.unusedVariables false

attribute [local go_sem] Oper.semAt_some

theorem back_all_zero {p : List UInt8} {n : Nat} (hn : p.length = n) {xs : List (Bk n fun j c => c = co p j)} (hS : backS xs) (h : ∀ x ∈ xs, x.val = 0) : plainL p = [] := by
  refine plain_nil (fun k => ?_)
  rw [co_nil]
  rcases Nat.lt_or_ge k n with hk | hk
  · have hm : k ∈ xs.map Bk.at := by rw [hS, mem_back n n k (Nat.le_refl _)]; omega
    obtain ⟨x, hx, rfl⟩ := List.mem_map.1 hm
    rw [← x.is, h x hx]
  · rw [co_ge p k (by omega)]
theorem back_first {p : List UInt8} {n : Nat} (hn : p.length = n) {ini : List (Bk n fun j c => c = co p j)} {last : Bk n fun j c => c = co p j} (hS : backP (ini ++ [last])) (h : ∀ x ∈ ini, x.val = 0) (hl : last.val ≠ 0) : (plainL p).length = last.at + 1 := by
  obtain ⟨k, hk, hm⟩ := hS
  rw [List.map_append, List.map_cons, List.map_nil] at hm
  obtain ⟨k', rfl⟩ : ∃ k', k = k' + 1 := by
    cases k with
    | zero => simp [backN] at hm
    | succ k' => exact ⟨k', rfl⟩
  rw [back_succ] at hm
  obtain ⟨e1, e2⟩ := List.append_inj' hm rfl
  have e3 : last.at = n - 1 - k' := by simpa using e2
  have h1 := plain_take p (last.at + 1) (by have := last.lt; omega) (fun j hj => by
    rcases Nat.lt_or_ge j n with hjn | hjn
    · have hm : j ∈ ini.map Bk.at := by rw [e1, mem_back n k' j (by omega)]; omega
      obtain ⟨x, hx, rfl⟩ := List.mem_map.1 hm
      rw [← x.is, h x hx]
    · rw [co_ge p j (by omega)]) (.inr (by rw [Nat.add_sub_cancel, ← last.is]; exact hl))
  rw [h1, List.length_take, hn]
  have := last.lt
  omega

/-- What a round keeps: what lay below, and the iterator's own box. -/
def KpB (n₀ Bs : Nat) (W W' : World) : Prop := Below n₀ W W' ∧ W'.heap[Bs]? = W.heap[Bs]?
theorem KpB.refl (n₀ Bs : Nat) (W : World) : KpB n₀ Bs W W := ⟨Below.refl _ _, rfl⟩
theorem KpB.trans {n₀ Bs : Nat} {X Y Z : World} (h : KpB n₀ Bs X Y) (k : KpB n₀ Bs Y Z) : KpB n₀ Bs X Z := ⟨h.1.trans k.1, k.2.trans h.2⟩
theorem KpB.own {n₀ Bs : Nat} {w : World} (hn : n₀ ≤ w.heap.size) (hB : Bs < w.heap.size) (W : World) (l : Nat) (o o' : Obj) (hl : w.heap.size ≤ l) (h : W.heap[l]? = some o) (h1 : o.isCells = false) (h2 : o.isWalk = false) : KpB n₀ Bs W (W.putObj l o') :=
  ⟨belowK_b hn W l o o' hl h h1 h2, World.putObj_heap_other (by omega)⟩

theorem boxed_turn {W W' : World} {row : Option Nat} {B : Nat} {t : TypeId} {v : Value} (h : Boxed W B t v) (hg : W.grownBy W' row) (hr : ∀ r, row = some r → ∃ o : Obj, W.heap[r]? = some o ∧ o.isCells = false) : Boxed W' B t v := boxed_own B t (fun _ : Unit => v) () W W' row h hg hr
theorem cel_turn {W W' : World} {row : Option Nat} {g : Nat} {e : TypeId} {l : List UInt8} (h : Cel W g e l) (hg : W.grownBy W' row) (hr : ∀ r, row = some r → ∃ o : Obj, W.heap[r]? = some o ∧ o.isCells = false) : Cel W' g e l := by
  obtain ⟨L, h1, h2⟩ := h
  refine ⟨L, (hg.block g h1.lt (fun e => ?_)).trans h1, h2⟩
  obtain ⟨o, ho, hc⟩ := hr g e.symm
  have h1' : W.heap[g]? = some (.cells L.toArray _ (0, 0)) := h1
  rw [h1'] at ho
  injection ho with ho
  subst ho
  cases hc

/-- Between two rounds: nothing but 0 has come, and the result's box holds 0; behind one that leaves: what has come last isn't 0, and its place lies there. -/
def DegI (w : World) {n : Nat} {V : Nat → UInt8 → Prop} (pre : List (Bk n V)) (W : World) : Prop := ((∀ x ∈ pre, x.val = 0) ∧ Boxed W w.heap.size 3 (.int .i64 0)) ∧ Below w.heap.size w W
def DegX (w : World) {n : Nat} {V : Nat → UInt8 → Prop} (c : Code) (pre : List (Bk n V)) (W : World) : Prop := (c = .ret ∧ ∃ ini last, pre = ini ++ [last] ∧ (∀ x ∈ ini, x.val = 0) ∧ last.val ≠ 0 ∧ Boxed W w.heap.size 3 (.int .i64 (last.at : Int))) ∧ Below w.heap.size w W
theorem degI_own (w : World) {n : Nat} {V : Nat → UInt8 → Prop} (B : Nat) (hB : w.heap.size ≤ B) : OwnFrom B (DegI w (n := n) (V := V)) :=
  OwnFrom.and (Own.from (fun s A B row hs hg hr => ⟨hs.1, boxed_turn hs.2 hg hr⟩) _) (ownFrom_below (Nat.le_refl _) hB)
theorem degX_own (w : World) {n : Nat} {V : Nat → UInt8 → Prop} (c : Code) (B : Nat) (hB : w.heap.size ≤ B) : OwnFrom B (DegX w c (n := n) (V := V)) :=
  OwnFrom.and (Own.from (fun s A B row hs hg hr => by obtain ⟨hc, ini, last, e1, e2, e3, e4⟩ := hs; exact ⟨hc, ini, last, e1, e2, e3, boxed_turn e4 hg hr⟩) _) (ownFrom_below (Nat.le_refl _) hB)

set_option maxHeartbeats 2000000 in
theorem degP_any (p : List UInt8) (n : Nat) (A : Option Addr) (c : Nat) (w : World) (HN : Hid (p.length = n)) (hr : Rd vB w A p) (hc : n ≤ c) (hn : n ≤ 100000) :
    Calls Try.prog 27 #[.slice A n c] w fun e w' => e = .returned (.int .i64 (((plainL p).length : Int) - 1)) ∧ Below w.heap.size w w' := by
  refine (callsIn_wide (n := 3)).1 ?_
  refine callsIn_of_wp_marks Try.func27 rfl trivial ?_ rfl
  simp only [Try.ntmps27, List.size_toArray, List.length_cons, List.length_nil, Nat.reduceAdd, Nat.reduceSub, Array.replicate_succ, Array.replicate_zero, List.push_toArray, List.append_toArray, List.nil_append, List.cons_append]
  gi_wp2_with (refine ⟨trivial, ?_⟩; gi_at_call 40; refine (callsIn_wide.2 (backward_any _ _ _ _)).mono ?_; rintro e w' ⟨rfl, rfl⟩)
  have bR := Boxed.new w 3 (.int .i64 0)
  have bN := Boxed.new (w.alloc (.cells #[.int .i64 0] 3)) 22 (.slice A n c)
  rw [World.size_alloc] at bN
  have bR' := bR.alloc (.cells #[.slice A n c] 22)
  have hB0 : Below w.heap.size w ((w.alloc (.cells #[.int .i64 0] 3)).alloc (.cells #[.slice A n c] 22)) := ((Below.refl _ w).alloc (Nat.le_refl _) _).alloc (by simp) _
  have hsz : ((w.alloc (.cells #[.int .i64 0] 3)).alloc (.cells #[.slice A n c] 22)).heap.size = w.heap.size + 2 := by simp
  generalize (w.alloc (.cells #[.int .i64 0] 3)).alloc (.cells #[.slice A n c] 22) = W0 at bN bR' hB0 hsz ⊢
  clear bR
  refine wpIn_rangeFunc_ownG rfl (by omega) (gf := 49) (lb := #[.pointer (some ⟨w.heap.size + 1, 0, none⟩)]) rfl trivial (enters_of Try.func49 (by kernel_rfl) rfl)
    (back_stops Fence.wide _ trivial rfl (by omega) (w.heap.size + 1) n c A (fun j c => c = co p j) (KpB w.heap.size (w.heap.size + 1)) (by omega) W0 (KpB.refl _ _) (fun _ _ _ => KpB.trans)
      (fun W hW W' hK => ⟨by
        have h1 : W'.heap[w.heap.size + 1]? = W0.heap[w.heap.size + 1]? := hK.2.trans (hW.block _ (by omega))
        exact Boxed.cell (t := 22) (h1.trans bN), p, HN.out, (hr.keep (hB0.trans ((hW.mono (by omega)).trans hK.1))), fun j _ => rfl⟩))
    (fun h k => KpB.trans h k) (KpB.own (by omega) (by omega)) (Below.refl _ _) (fun _ => rfl)
    (DegI w) (DegX w) (degI_own w _ (by omega)) (fun c => degX_own w c _ (by omega))
    ⟨⟨by simp, bR'⟩, hB0⟩
    (fun x => { tmps := #[.slice A n c, undef, .pointer (some ⟨w.heap.size, 0, none⟩), .int .i64 (x.at : Int), .int .u8 (x.val.toNat : Int), .slice A n c, .func (.func 49) #[] #[.pointer (some ⟨w.heap.size + 1, 0, none⟩)], .int .i64 (x.at : Int), .int .u8 (x.val.toNat : Int), undef, undef, undef], defers := [] }) ?assign ?body ?done ?stop
  case assign =>
    intro l x W K hK
    unfold Bk.enc
    gi_wp2
    exact hK
  case body =>
    rintro l pre x W ⟨⟨hp, hcr⟩, hB⟩ _
    have hcc := hcr.cell
    have hff := hcr.frozen
    obtain ⟨y, hy⟩ : ∃ y, x.val = y := ⟨_, rfl⟩
    obtain ⟨q, hq⟩ : ∃ q, x.at = q := ⟨_, rfl⟩
    rw [hy, hq]
    by_cases hx : y = 0
    · subst hx
      have HR : Hid (DegI w (pre ++ [x]) W) := ⟨⟨fun z hz => (List.mem_append.1 hz).elim (hp z) (fun e => by simp at e; subst e; exact hy), hcr⟩, hB⟩
      have e0 : ((0 : UInt8).toNat : Int) = 0 := rfl
      rw [e0]
      clear hp hB hcr hq hy
      gi_wp2
      exact ⟨KeepsFrom.refl _ _, KpB.refl _ _ _, HR.out⟩
    · have hne : ((y.toNat : Int) == 0) = false := by
        have : y.toNat ≠ 0 := fun e => hx (UInt8.toNat_inj.1 e)
        simp
        omega
      have hy0 : x.val ≠ 0 := by rw [hy]; exact hx
      have HR : Hid (DegX w .ret (pre ++ [x]) (W.setCell ⟨w.heap.size, 0, none⟩ (.int .i64 (q : Int)))) :=
        ⟨⟨rfl, pre, x, rfl, hp, hy0, by rw [hq]; exact hcr.set _⟩, hB.setCell (p := ⟨w.heap.size, 0, none⟩) (Nat.le_refl _) _⟩
      clear hp hB hcr hq hy hx hy0
      gi_wp2
      exact ⟨(KeepsOthers.setCell _ _ _).from _, HR.out⟩
  case done =>
    rintro D ys W hD hS ⟨⟨hz, hcr⟩, hB⟩ hK
    have hP := back_all_zero HN.out hS hz
    have hcc := hcr.cell
    have hff := hcr.frozen
    gi_wp2
    have hK' := (KeepsOthers.setCell W ⟨w.heap.size, 0, none⟩ (.int .i64 (-1))).same D _ hK rfl
    refine ⟨by simp, .inl ⟨_, _, rfl, run_takeDeferred hK', ?_⟩⟩
    have hc5 := cell_kept (World.cell?_setCell_same' W ⟨w.heap.size, 0, none⟩ (.int .i64 (-1)) (by rw [hcc]; rfl)) (grownBy_putObj' _ D (.deferred none)) (fun r e => by cases e; exact ⟨_, hK', rfl⟩)
    refine ⟨.int .i64 (-1), ?_, by rw [hP]; rfl, (hB.setCell (p := ⟨w.heap.size, 0, none⟩) (Nat.le_refl _) _).trans (belowK_b (w := w) (Nat.le_refl _) _ D _ _ (by omega) hK' rfl rfl)⟩
    simp [results, Try.f27, go_sem, hc5]
  case stop =>
    rintro D c pre W hD hS ⟨⟨rfl, ini, last, rfl, hz, hl, hcr⟩, hB⟩ hK
    have hP := back_first HN.out hS hz hl
    have hcc := hcr.cell
    gi_wp2
    refine ⟨by simp, .inl ⟨_, _, rfl, run_takeDeferred hK, ?_⟩⟩
    have hc5 := cell_kept hcc (grownBy_putObj' _ D (.deferred none)) (fun r e => by cases e; exact ⟨_, hK, rfl⟩)
    refine ⟨.int .i64 (last.at : Int), ?_, by rw [hP, show (((last.at + 1 : Nat) : Int) - 1) = (last.at : Int) by omega], hB.trans (belowK_b (w := w) (Nat.le_refl _) W D _ _ (by omega) hK rfl rfl)⟩
    simp [results, Try.f27, go_sem, hc5]

theorem plain_is_take (p : List UInt8) : plainL p = p.take (plainL p).length := by
  by_cases h : plainL p = []
  · rw [h]
    simp
  · have h1 := plain_take p (plainL p).length (plain_len p) (fun k hk => plain_ge p k hk) (.inr (plain_top p h))
    exact h1
theorem Rd.plain {w : World} {A : Option Addr} {p : List UInt8} (h : Rd vB w A p) : Rd vB w A (plainL p) := by
  rw [plain_is_take]
  exact h.take _

/-- cut: the same memory, as far as the plain one goes. -/
theorem cutP_any (p : List UInt8) (n : Nat) (A : Option Addr) (c : Nat) (w : World) (HN : Hid (p.length = n)) (hr : Rd vB w A p) (hc : n ≤ c) (hn : n ≤ 100000) :
    Calls Try.prog 38 #[.slice A n c] w fun e w' => ∃ k, e = .returned (.slice A k c) ∧ Hid ((plainL p).length = k) ∧ k ≤ n ∧ Below w.heap.size w w' := by
  obtain ⟨k, hk⟩ : ∃ k, (plainL p).length = k := ⟨_, rfl⟩
  have hkn : k ≤ n := by rw [← hk, ← HN.out]; exact plain_len p
  have hd := degP_any p n A c w HN hr hc hn
  have e1 : ((k : Int) - 1) + 1 = (k : Int) := by omega
  rw [hk] at hd
  have HD := Lib.hid hd
  have HK := Lib.hid hk
  have hcut := fun W => run_cut_to (P := Try.prog) 22 5 Try.underlying22 size_uint8 A n c k (by omega) W
  clear hd hk
  go_enter Try.func38, Try.ntmps38
  go_wp2_with fail
  refine HD.out.mono ?_
  rintro e w1 ⟨rfl, hb1⟩
  go_wp2_with fail
  go_ret
  exact ⟨k, rfl, HK, hkn, hb1⟩

/-! ### Eval -/
def hornB {n : Nat} {V : Nat → UInt8 → Prop} (x : UInt8) (pre : List (Bk n V)) : UInt8 := (pre.map Bk.val).foldl (fun v c => addB (mulB v x) c) 0
theorem horn_snoc {n : Nat} {V : Nat → UInt8 → Prop} (x : UInt8) (pre : List (Bk n V)) (y : Bk n V) : hornB x (pre ++ [y]) = addB (mulB (hornB x pre) x) y.val := by
  unfold hornB
  rw [List.map_append, List.foldl_append]
  rfl
theorem back_vals {p : List UInt8} {n : Nat} (hn : p.length = n) {xs : List (Bk n fun j c => c = co p j)} (hS : backS xs) : xs.map Bk.val = p.reverse := by
  have h1 : xs.map Bk.val = (xs.map Bk.at).map (co p) := by
    rw [List.map_map]
    exact List.map_congr_left fun x _ => x.is
  rw [h1, hS]
  apply List.ext_getElem
  · rw [List.length_map, back_length, List.length_reverse, hn]
  · intro i h2 h3
    rw [List.length_reverse] at h3
    rw [List.getElem_map, List.getElem_reverse]
    unfold backN
    rw [List.getElem_map, List.getElem_range, co_lt p _ (by omega)]
    congr 1
    omega
theorem horn_all {p : List UInt8} {n : Nat} (hn : p.length = n) (x : UInt8) {xs : List (Bk n fun j c => c = co p j)} (hS : backS xs) : hornB x xs = evalL p x := by
  unfold hornB
  rw [back_vals hn hS, List.foldl_reverse]
  clear hS hn
  induction p with
  | nil => rfl
  | cons a p ih => rw [List.foldr_cons, ih (xs := []), evalL, add_comm, mul_comm]
def EvI (w : World) (x : UInt8) {n : Nat} {V : Nat → UInt8 → Prop} (pre : List (Bk n V)) (W : World) : Prop :=
  (Boxed W (w.heap.size + 1) 5 (.int .u8 ((hornB x pre).toNat : Int)) ∧ Boxed W w.heap.size 5 (.int .u8 (x.toNat : Int))) ∧ Below w.heap.size w W
theorem evI_own (w : World) (x : UInt8) {n : Nat} {V : Nat → UInt8 → Prop} (B : Nat) (hB : w.heap.size ≤ B) : OwnFrom B (EvI w x (n := n) (V := V)) :=
  OwnFrom.and (Own.from (fun s A B row hs hg hr => ⟨boxed_turn hs.1 hg hr, boxed_turn hs.2 hg hr⟩) _) (ownFrom_below (Nat.le_refl _) hB)

set_option maxHeartbeats 2000000 in
theorem evalP_any (p : List UInt8) (x : UInt8) (n : Nat) (A : Option Addr) (c : Nat) (w : World) (HN : Hid (p.length = n)) (hr : Rd vB w A p) (hc : n ≤ c) (hn : n ≤ 50000) :
    Calls Try.prog 25 #[.slice A n c, .int .u8 (x.toNat : Int)] w fun e w' => e = .returned (.int .u8 ((evalL p x).toNat : Int)) ∧ Below w.heap.size w w' := by
  refine (callsIn_wide (n := 3)).1 ?_
  refine callsIn_of_wp_marks Try.func25 rfl trivial ?_ rfl
  simp only [Try.ntmps25, List.size_toArray, List.length_cons, List.length_nil, Nat.reduceAdd, Nat.reduceSub, Array.replicate_succ, Array.replicate_zero, List.push_toArray, List.append_toArray, List.nil_append, List.cons_append]
  gi_wp2_with (refine ⟨trivial, ?_⟩; gi_at_call 40; refine (callsIn_wide.2 (backward_any _ _ _ _)).mono ?_; rintro e w' ⟨rfl, rfl⟩)
  have bX := ((Boxed.new w 5 (.int .u8 (x.toNat : Int))).alloc (.cells #[.int .u8 0] 5)).alloc (.cells #[.slice A n c] 22)
  have bV := (Boxed.new (w.alloc (.cells #[.int .u8 (x.toNat : Int)] 5)) 5 (.int .u8 0)).alloc (.cells #[.slice A n c] 22)
  have bN := Boxed.new ((w.alloc (.cells #[.int .u8 (x.toNat : Int)] 5)).alloc (.cells #[.int .u8 0] 5)) 22 (.slice A n c)
  simp only [World.size_alloc] at bN bV
  have hB0 : Below w.heap.size w (((w.alloc (.cells #[.int .u8 (x.toNat : Int)] 5)).alloc (.cells #[.int .u8 0] 5)).alloc (.cells #[.slice A n c] 22)) := (((Below.refl _ w).alloc (Nat.le_refl _) _).alloc (by simp) _).alloc (by simp; omega) _
  have hsz : (((w.alloc (.cells #[.int .u8 (x.toNat : Int)] 5)).alloc (.cells #[.int .u8 0] 5)).alloc (.cells #[.slice A n c] 22)).heap.size = w.heap.size + 3 := by simp
  generalize ((w.alloc (.cells #[.int .u8 (x.toNat : Int)] 5)).alloc (.cells #[.int .u8 0] 5)).alloc (.cells #[.slice A n c] 22) = W0 at bX bV bN hB0 hsz ⊢
  refine wpIn_rangeFunc_ownG rfl (by omega) (gf := 49) (lb := #[.pointer (some ⟨w.heap.size + 1 + 1, 0, none⟩)]) rfl trivial (enters_of Try.func49 (by kernel_rfl) rfl)
    (back_stops Fence.wide _ trivial rfl (by omega) (w.heap.size + 1 + 1) n c A (fun j c => c = co p j) (KpB w.heap.size (w.heap.size + 1 + 1)) (by omega) W0 (KpB.refl _ _) (fun _ _ _ => KpB.trans)
      (fun W hW W' hK => ⟨by
        have h1 : W'.heap[w.heap.size + 1 + 1]? = W0.heap[w.heap.size + 1 + 1]? := hK.2.trans (hW.block _ (by omega))
        exact Boxed.cell (t := 22) (h1.trans bN), p, HN.out, (hr.keep (hB0.trans ((hW.mono (by omega)).trans hK.1))), fun j _ => rfl⟩))
    (fun h k => KpB.trans h k) (KpB.own (by omega) (by omega)) (Below.refl _ _) (fun _ => rfl)
    (EvI w x) (fun _ _ _ => False) (evI_own w x _ (by omega)) (fun _ _ _ _ _ hs _ _ => hs)
    ⟨⟨bV, bX⟩, hB0⟩
    (fun y => { tmps := #[.slice A n c, .int .u8 (x.toNat : Int), undef, .pointer (some ⟨w.heap.size, 0, none⟩), .int .u8 0, .pointer (some ⟨w.heap.size + 1, 0, none⟩), undef, .int .u8 (y.val.toNat : Int), .slice A n c, .func (.func 49) #[] #[.pointer (some ⟨w.heap.size + 1 + 1, 0, none⟩)], .int .i64 (y.at : Int), .int .u8 (y.val.toNat : Int), undef, undef, undef, undef, undef, undef], defers := [] }) ?assign ?body ?done ?stop
  case assign =>
    intro l x W K hK
    unfold Bk.enc
    gi_wp2
    exact hK
  case body =>
    rintro l pre y W ⟨⟨hv, hx⟩, hB⟩ _
    have hvc := hv.cell
    have hvf := hv.frozen
    have hxc := hx.cell
    have HH : Hid (hornB x (pre ++ [y]) = addB (mulB (hornB x pre) x) y.val) := horn_snoc x pre y
    generalize hornB x pre = v at hv hvc HH
    generalize y.val = b at HH ⊢
    have hM : ∀ W, Calls Try.prog 33 #[.int .u8 (v.toNat : Int), .int .u8 (x.toNat : Int)] W fun e w'' => e = .returned (.int .u8 ((mulB v x).toNat : Int)) ∧ W = w'' := fun W => gfmul_any v x W
    generalize mulB v x = m at HH hM
    have hA : ∀ W, Calls Try.prog 16 #[.int .u8 (m.toNat : Int), .int .u8 (b.toNat : Int)] W fun e w'' => e = .returned (.int .u8 ((addB m b).toNat : Int)) ∧ W = w'' := fun W => gfadd_any m b W
    generalize addB m b = z at HH hA
    have HR : Hid (KeepsFrom W0.heap.size W (W.setCell ⟨w.heap.size + 1, 0, none⟩ (.int .u8 (z.toNat : Int))) ∧ KpB w.heap.size (w.heap.size + 1 + 1) W (W.setCell ⟨w.heap.size + 1, 0, none⟩ (.int .u8 (z.toNat : Int))) ∧ EvI w x (pre ++ [y]) (W.setCell ⟨w.heap.size + 1, 0, none⟩ (.int .u8 (z.toNat : Int)))) :=
      ⟨(KeepsOthers.setCell _ _ _).from _, ⟨(Below.refl _ W).setCell (p := ⟨w.heap.size + 1, 0, none⟩) (Nat.le_succ _) _, Below.heap_setCell W ⟨w.heap.size + 1, 0, none⟩ _ _ (by simp)⟩,
        ⟨by rw [HH.out]; exact hv.set _, hx.kept (grownBy_setCell' W (w.heap.size + 1) _) (by simp)⟩, hB.setCell (p := ⟨w.heap.size + 1, 0, none⟩) (Nat.le_succ _) _⟩
    have HM := Lib.hid hM
    have HA := Lib.hid hA
    clear hM hA hv hx hB HH bX bV bN
    gi_wp2_with (refine ⟨trivial, ?_⟩; first | (gi_at_call 33; refine (CallsIn.inRound l (callsIn_wide.2 (HM.out _))).mono ?_; rintro e w' ⟨rfl, rfl⟩) | (gi_at_call 16; refine (CallsIn.inRound l (callsIn_wide.2 (HA.out _))).mono ?_; rintro e w' ⟨rfl, rfl⟩))
    exact HR.out
  case done =>
    rintro D ys W hD hS ⟨⟨hv, hx⟩, hB⟩ hK
    rw [horn_all HN.out x hS] at hv
    have hvc := hv.cell
    gi_wp2
    refine ⟨by simp, .inl ⟨_, _, rfl, run_takeDeferred hK, ?_⟩⟩
    exact ⟨_, results_tmp rfl _ _ _, rfl, hB.trans (belowK_b (w := w) (Nat.le_refl _) W D _ _ (by omega) hK rfl rfl)⟩
  case stop =>
    rintro D c pre W _ _ h _
    exact h.elim
end Go.Proofs.Ytankddeolpickaa
