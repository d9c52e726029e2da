/-
  What the program's calls of layer 6 answer: New, Right, Tag, Fits. Condition: the package's table holds sixty-four words (for tags).
-/
import Derived.Test.YtknjpmoimjhddaaGreatDoorQ9
import Derived.Handy
namespace Go.Proofs.YtknjpmoimjhddaaGreatDoor
set_option maxRecDepth 100000
open Go.RowKit
set_option linter.unusedSimpArgs false
set_option linter.unusedVariables false

/-- Three results, the first of them a whole block. -/
theorem results_row_tmp2 {P : Program} {fn : Func} {p u v : Tmp} {ty : TypeId} (h : fn.results = #[.cell p ty, .tmp u, .tmp v]) (tmps : Array Value) (w : World) (g : Nat) (t : TypeId) (l : List Value) (d : TypeDesc) (hp : tmps.getD p undef = .pointer (some ⟨g, 0, none⟩)) (hg : Row w g t l)
    (hu : P.underlying ty = some d) (hd : d.isRow = true) (hi : (P.info? ty).map (·.size) = some l.length) : (results fn tmps).run P w = .ok (.tuple #[.agg l.toArray, tmps.getD u undef, tmps.getD v undef]) w := by
  have e : (results fn tmps).run P w = ((asAddr (tmps.getD p undef)).run P w).andThen fun a w₁ => ((loadVar ty a).run P w₁).andThen fun x w₂ => .ok (.tuple #[x, tmps.getD u undef, tmps.getD v undef]) w₂ := by
    simp only [results, h]
    simp [Sem.run_bind, Result.andThen]
  rw [e, hp]
  simp only [asAddr, Sem.run_pure, Result.andThen_ok, hg.loadVar (P := P) ty d hu hd hi]
theorem maker_one (A : Option Addr) (c : Nat) (w : World) :
    Calls Tryz.prog 76 #[.agg #[.int .i64 1, .slice A 0 c]] w fun e w' => e = .returned (.tuple #[.iface 185 (.agg #[.int .i64 1, .slice A 0 c]), .bool true]) ∧ Below w.heap.size w w' := by
  obtain ⟨hR, hB⟩ := box_rows w 48 (.int .i64 1) (.slice A 0 c)
  have c0 : (w.alloc (.cells #[.int .i64 1, .slice A 0 c] 48)).cell? ⟨w.heap.size, 0, none⟩ = some (.int .i64 1) := hR.cell rfl
  go_enter Tryz.func76, Tryz.ntmps76
  go_wp2_with (refine wpList_load_part rfl 48 (.tmp 1) rfl w.heap.size 0 rfl _ _ hR [.int .i64 1, .slice A 0 c] (by rfl) _ Tryz.underlying48 rfl (by exact size_engine) ?_)
  refine (cright_any 1 0 A c _ (by omega)).mono ?_
  rintro e w' ⟨rfl, hb⟩
  have hd : decide ((0 : Nat) = 0) = true := rfl
  rw [hd]
  go_wp2_with fail
  go_ret2
  exact ⟨rfl, below_step hB hb⟩
theorem maker_two (ts : List TD) (p : Nat) (A : Option Addr) (c : Nat) (w : World) (HP : Hid (ts.length = p)) (HL : Hid (lenT (conT ts))) (ht : RdT w A ts) (hok : okT w ts) (hp : p ≤ 1000000000) (hc : p ≤ c) (HR : Hid (rightT (conT ts) = true)) :
    Calls Tryz.prog 76 #[.agg #[.int .i64 2, .slice A p c]] w fun e w' => e = .returned (.tuple #[.iface 186 (.agg #[.int .i64 2, .slice A p c]), .bool true]) ∧ Below w.heap.size w w' := by
  obtain ⟨hR, hB⟩ := box_rows w 48 (.int .i64 2) (.slice A p c)
  have c0 : (w.alloc (.cells #[.int .i64 2, .slice A p c] 48)).cell? ⟨w.heap.size, 0, none⟩ = some (.int .i64 2) := hR.cell rfl
  go_enter Tryz.func76, Tryz.ntmps76
  go_wp2_with (refine wpList_load_part rfl 48 (.tmp 1) rfl w.heap.size 0 rfl _ _ hR [.int .i64 2, .slice A p c] (by rfl) _ Tryz.underlying48 rfl (by exact size_engine) ?_)
  refine (sright_any ts 2 p A c _ HP HL (ht.keep hB) (hok.keep hB) hp hc).mono ?_
  rintro e w' ⟨rfl, hb⟩
  rw [HR.out]
  go_wp2_with fail
  go_ret2
  exact ⟨rfl, below_step hB hb⟩
theorem maker_bad (K : Int) (ts : List TD) (p : Nat) (A : Option Addr) (c : Nat) (w : World) (HP : Hid (ts.length = p)) (HL : Hid (lenT (conT ts))) (ht : RdT w A ts) (hok : okT w ts) (hp : p ≤ 1000000000) (hc : p ≤ c) (HR : Hid (rightE K (conT ts) = false)) :
    Calls Tryz.prog 76 #[.agg #[.int .i64 K, .slice A p c]] w fun e w' => e = .returned (.tuple #[.nilIface, .bool false]) ∧ Below w.heap.size w w' := by
  obtain ⟨hR, hB⟩ := box_rows w 48 (.int .i64 K) (.slice A p c)
  have c0 : (w.alloc (.cells #[.int .i64 K, .slice A p c] 48)).cell? ⟨w.heap.size, 0, none⟩ = some (.int .i64 K) := hR.cell rfl
  by_cases h1 : K = 1
  · subst h1
    have h0 : p ≠ 0 := fun h => by
      have e : conT ts = [] := List.length_eq_zero_iff.1 (by rw [conT_length, HP.out, h])
      have := HR.out
      rw [e, rightE_one] at this
      cases this
    have hd : Hid (decide (p = 0) = false) := decide_eq_false h0
    go_enter Tryz.func76, Tryz.ntmps76
    go_wp2_with (refine wpList_load_part rfl 48 (.tmp 1) rfl w.heap.size 0 rfl _ _ hR [.int .i64 1, .slice A p c] (by rfl) _ Tryz.underlying48 rfl (by exact size_engine) ?_)
    refine (cright_any 1 p A c _ hp).mono ?_
    rintro e w' ⟨rfl, hb⟩
    rw [hd.out]
    go_wp2_with fail
    go_ret2
    exact ⟨rfl, below_step hB hb⟩
  · have k1 : (K == 1) = false := by simp [h1]
    by_cases h2 : K = 2
    · subst h2
      have HF : Hid (rightT (conT ts) = false) := by
        have := HR.out
        unfold rightE at this
        unfold Hid
        simpa using this
      go_enter Tryz.func76, Tryz.ntmps76
      go_wp2_with (refine wpList_load_part rfl 48 (.tmp 1) rfl w.heap.size 0 rfl _ _ hR [.int .i64 2, .slice A p c] (by rfl) _ Tryz.underlying48 rfl (by exact size_engine) ?_)
      refine (sright_any ts 2 p A c _ HP HL (ht.keep hB) (hok.keep hB) hp hc).mono ?_
      rintro e w' ⟨rfl, hb⟩
      rw [HF.out]
      go_wp2_with fail
      go_ret2
      exact ⟨rfl, below_step hB hb⟩
    · have k2 : (K == 2) = false := by simp [h2]
      go_enter Tryz.func76, Tryz.ntmps76
      go_wp2_with fail
      go_ret2
      exact ⟨rfl, hB⟩

theorem rightE_any (K : Int) (ts : List TD) (p : Nat) (A : Option Addr) (c : Nat) (w : World) (HP : Hid (ts.length = p)) (HL : Hid (lenT (conT ts))) (ht : RdT w A ts) (hok : okT w ts) (hp : p ≤ 1000000) (hc : p ≤ c) :
    Calls Tryz.prog 29 #[.agg #[.int .i64 K, .slice A p c]] w fun e w' => e = .returned (.bool (rightE K (conT ts))) ∧ Below w.heap.size w w' := by
  obtain ⟨hR, hB⟩ := box_rows w 48 (.int .i64 K) (.slice A p c)
  have hm : Calls Tryz.prog 76 #[.agg #[.int .i64 K, .slice A p c]] (w.alloc (.cells #[.int .i64 K, .slice A p c] 48)) fun e w' => ∃ v, e = .returned (.tuple #[v, .bool (rightE K (conT ts))]) ∧ Below (w.alloc (.cells #[.int .i64 K, .slice A p c] 48)).heap.size (w.alloc (.cells #[.int .i64 K, .slice A p c] 48)) w' := by
    by_cases hr : rightE K (conT ts) = true
    · rw [hr]
      rcases rightE_cases hr with ⟨rfl, h0⟩ | ⟨rfl, hT⟩
      · have e0 : p = 0 := by rw [← HP.out, ← conT_length, h0]; rfl
        subst e0
        exact (maker_one A c _).mono fun e w' ⟨he, hb⟩ => ⟨_, he, hb⟩
      · exact (maker_two ts p A c _ HP HL (ht.keep hB) (hok.keep hB) (by omega) hc (Lib.hid hT)).mono fun e w' ⟨he, hb⟩ => ⟨_, he, hb⟩
    · rw [Bool.eq_false_iff.2 hr]
      exact (maker_bad K ts p A c _ HP HL (ht.keep hB) (hok.keep hB) (by omega) hc (Lib.hid (Bool.eq_false_iff.2 hr))).mono fun e w' ⟨he, hb⟩ => ⟨_, he, hb⟩
  generalize rightE K (conT ts) = r at hm ⊢
  go_enter Tryz.func29, Tryz.ntmps29
  go_wp2_with (refine wpList_load_part rfl 48 (.tmp 1) rfl w.heap.size 0 rfl _ _ hR [.int .i64 K, .slice A p c] (by rfl) _ Tryz.underlying48 rfl (by exact size_engine) ?_)
  refine hm.mono ?_
  rintro e w' ⟨v, rfl, hb⟩
  clear hm
  go_wp2_with fail
  go_ret
  exact ⟨rfl, below_step hB hb⟩
/-- What a tag's call hands back, by an engine that is right, and by another one. -/
def TagGood [Inhabited Tab] (K : Int) (ts : List TD) (x : Tm) (w : World) (e : Ending) (w' : World) : Prop :=
  ∃ (us : List TD) (p : Nat) (A : Option Addr) (c : Nat) (tA : Option Addr) (tc : Nat), e = .returned (.tuple #[.agg #[.int .i64 K, .slice A p c], .slice tA 8 tc, .int .i64 0]) ∧ Hid (us.length = p) ∧ p ≤ c ∧ 8 ≤ tc ∧ RdT w' A us ∧ okT w' us ∧ Hid (conT us = termsE K (conT ts) x) ∧ Rd vB w' tA (bytesE K (conT ts) x) ∧ Below w.heap.size w w'
def TagBad (K : Int) (ts : List TD) (w : World) (e : Ending) (w' : World) : Prop :=
  ∃ (us : List TD) (p : Nat) (A : Option Addr) (c : Nat) (tA : Option Addr) (tc : Nat), e = .returned (.tuple #[.agg #[.int .i64 K, .slice A p c], .slice tA 0 tc, .int .i64 1]) ∧ Hid (us.length = p) ∧ p ≤ c ∧ RdT w' A us ∧ okT w' us ∧ Hid (conT us = conT ts) ∧ Below w.heap.size w w'
theorem tagE_good [Inhabited Tab] (K : Int) (ts : List TD) (key msg : List UInt8) (p n m : Nat) (A B C : Option Addr) (c d e : Nat) (w : World) (HP : Hid (ts.length = p)) (HL : Hid (lenT (conT ts))) (HN : Hid (key.length = n)) (HM : Hid (msg.length = m)) (ht : RdT w A ts) (hok : okT w ts) (hk : Rd vB w B key) (hm : Rd vB w C msg) (hp : p ≤ 1000000) (hc : p ≤ c) (hn : n ≤ 1000000) (hmm : m ≤ 1000000) (hnd : n ≤ d) (hme : m ≤ e) (HR : Hid (rightE K (conT ts) = true)) (HK : Hid (KTab w)) :
    Calls Tryz.prog 101 #[.agg #[.int .i64 K, .slice A p c], .slice B n d, .slice C m e] w (TagGood K ts (key, msg) w) := by
  obtain ⟨hR, hB0⟩ := box_rows w 48 (.int .i64 K) (.slice A p c)
  have hR1 := hR.alloc (.cells #[.int .i64 0, .slice none 0 0] 48)
  have hB := below_new hB0 (.cells #[.int .i64 0, .slice none 0 0] 48)
  have hR2 : Row ((w.alloc (.cells #[.int .i64 K, .slice A p c] 48)).alloc (.cells #[.int .i64 0, .slice none 0 0] 48)) (w.heap.size + 1) 48 [.int .i64 0, .slice none 0 0] := Row.new_at _ _ (by simp) _ _ _ rfl
  replace ht := ht.keep hB
  replace hok := hok.keep hB
  replace hk := hk.keep hB
  replace hm := hm.keep hB
  replace HK := Lib.hid (HK.out.keep hB)
  clear hR hB0
  go_enter Tryz.func101, Tryz.ntmps101
  go_upto_region 1 with fail
  generalize (w.alloc (.cells #[.int .i64 K, .slice A p c] 48)).alloc (.cells #[.int .i64 0, .slice none 0 0] 48) = W2 at hR1 hR2 hB ht hok hk hm HK ⊢
  have hnb := two_no_byte 0 (.slice none 0 0) (slice_no_byte none 0 0)
  rcases rightE_cases HR.out with ⟨rfl, h0⟩ | ⟨rfl, hT⟩
  · have e0 : p = 0 := by rw [← HP.out, ← conT_length, h0]; rfl
    have e1 : ts = [] := List.length_eq_zero_iff.1 (by rw [HP.out, e0])
    subst e0 e1
    clear h0
    go_upto_region 2 with (first | (refine wpList_load_part rfl 48 (.tmp 3) rfl w.heap.size 0 rfl _ _ hR1 [.int .i64 1, .slice A 0 c] (by rfl) _ Tryz.underlying48 rfl (by exact size_engine) ?_) | (go_at_call 76; refine (maker_one A c _).mono ?_; rintro e' w3 ⟨rfl, hb⟩))
    replace hR2 := hR2.later hb
    replace hk := hk.keep hb
    replace hm := hm.keep hb
    replace HK := Lib.hid (HK.out.keep hb)
    replace hB := below_step hB hb
    clear hb hR1 ht hok
    go_wp2_with fail
    refine (ctag_any 1 key msg 0 n m A B C c d e _ HN HM hk hm hn hmm hnd HK).mono ?_
    rintro e' w4 ⟨tA, tc, rfl, htc, hr, hb⟩
    replace hR2 := hR2.later hb
    have HB := Lib.hid (below_step hB hb)
    clear hb hB hk hm
    have hR3 : Row (w4.alloc (.cells #[.int .i64 0, .slice none 0 0] 48)) w4.heap.size 48 [.int .i64 0, .slice none 0 0] := Row.new w4 _ _ _ rfl
    go_upto_region 5 with (refine wpList_store_row rfl 48 (.tmp 11) (.tmp 27) rfl w4.heap.size rfl [.int .i64 1, .slice none 0 0] rfl _ _ hR3 (by exact size_engine) rfl (one_pair _ _ rfl rfl) ?_)
    have hR4 := hR3.setRow [.int .i64 1, .slice none 0 0]
    have hbn : Below w4.heap.size w4 ((w4.alloc (.cells #[.int .i64 0, .slice none 0 0] 48)).setRow w4.heap.size [.int .i64 1, .slice none 0 0].toArray) := below_setRow (below_new (Below.refl _ _) _) (Nat.le_refl _) _
    generalize (w4.alloc (.cells #[.int .i64 0, .slice none 0 0] 48)).setRow w4.heap.size [.int .i64 1, .slice none 0 0].toArray = w5 at hR4 hbn ⊢
    replace hR2 := hR2.later hbn
    replace hr := hr.keep hbn
    replace HB := Lib.hid (below_step HB.out hbn)
    clear hR3 hbn
    generalize w4.heap.size = g at hR4 ⊢
    go_wp2_with (first | (refine wpList_load_part rfl 48 (.tmp 11) rfl g 0 rfl _ _ hR4 [.int .i64 1, .slice none 0 0] (by rfl) _ Tryz.underlying48 rfl (by exact size_engine) ?_) | (refine wpList_store_row rfl 48 (.tmp 6) (.tmp 29) rfl (w.heap.size + 1) rfl [.int .i64 1, .slice none 0 0] rfl _ _ hR2 (by exact size_engine) rfl (one_pair _ _ rfl rfl) ?_))
    refine bodyPost_ret (results_row_tmp2 (p := 6) (u := 7) (v := 8) (ty := 48) (by rfl) _ _ (w.heap.size + 1) 48 _ _ (by rfl) (by exact hR2.setRow _) Tryz.underlying48 (by rfl) (by exact size_engine)) (by rfl) ?_
    exact ⟨[], 0, none, 0, tA, tc, rfl, Lib.hid rfl, Nat.le_refl _, htc, RdT.nil, (fun x hx => by cases hx), rfl, hr.setRow_row hR2 hnb _, below_setRow HB.out (by omega) _⟩
  · go_upto_region 2 with (first | (refine wpList_load_part rfl 48 (.tmp 3) rfl w.heap.size 0 rfl _ _ hR1 [.int .i64 2, .slice A p c] (by rfl) _ Tryz.underlying48 rfl (by exact size_engine) ?_) | (go_at_call 76; refine (maker_two ts p A c _ HP HL ht hok (by omega) hc (Lib.hid hT)).mono ?_; rintro e' w3 ⟨rfl, hb⟩))
    replace hR2 := hR2.later hb
    replace ht := ht.keep hb
    replace hok := hok.keep hb
    replace hk := hk.keep hb
    replace hm := hm.keep hb
    replace hB := below_step hB hb
    clear hb hR1
    go_wp2_with fail
    refine (stag_any ts key msg p n m A B C c d e _ HP HN HM HL ht hok hk hm hp hc hn hmm).mono ?_
    rintro e' w4 ⟨us, q, A', c', tA, tc, rfl, HQ, hqc, htc, htu, hoku, HC, hr, hb⟩
    replace hR2 := hR2.later hb
    have HB := Lib.hid (below_step hB hb)
    clear hb hB hk hm ht hok
    have hR3 : Row (w4.alloc (.cells #[.int .i64 0, .slice none 0 0] 48)) w4.heap.size 48 [.int .i64 0, .slice none 0 0] := Row.new w4 _ _ _ rfl
    go_upto_region 5 with (refine wpList_store_row rfl 48 (.tmp 11) (.tmp 27) rfl w4.heap.size rfl [.int .i64 2, .slice A' q c'] rfl _ _ hR3 (by exact size_engine) rfl (one_pair _ _ rfl rfl) ?_)
    have hR4 := hR3.setRow [.int .i64 2, .slice A' q c']
    have hbn : Below w4.heap.size w4 ((w4.alloc (.cells #[.int .i64 0, .slice none 0 0] 48)).setRow w4.heap.size [.int .i64 2, .slice A' q c'].toArray) := below_setRow (below_new (Below.refl _ _) _) (Nat.le_refl _) _
    generalize (w4.alloc (.cells #[.int .i64 0, .slice none 0 0] 48)).setRow w4.heap.size [.int .i64 2, .slice A' q c'].toArray = w5 at hR4 hbn ⊢
    replace hR2 := hR2.later hbn
    replace hr := hr.keep hbn
    replace htu := htu.keep hbn
    replace hoku := hoku.keep hbn
    replace HB := Lib.hid (below_step HB.out hbn)
    clear hR3 hbn
    generalize w4.heap.size = g at hR4 ⊢
    go_wp2_with (first | (refine wpList_load_part rfl 48 (.tmp 11) rfl g 0 rfl _ _ hR4 [.int .i64 2, .slice A' q c'] (by rfl) _ Tryz.underlying48 rfl (by exact size_engine) ?_) | (refine wpList_store_row rfl 48 (.tmp 6) (.tmp 29) rfl (w.heap.size + 1) rfl [.int .i64 2, .slice A' q c'] rfl _ _ hR2 (by exact size_engine) rfl (one_pair _ _ rfl rfl) ?_))
    refine bodyPost_ret (results_row_tmp2 (p := 6) (u := 7) (v := 8) (ty := 48) (by rfl) _ _ (w.heap.size + 1) 48 _ _ (by rfl) (by exact hR2.setRow _) Tryz.underlying48 (by rfl) (by exact size_engine)) (by rfl) ?_
    exact ⟨us, q, A', c', tA, tc, rfl, HQ, hqc, htc, htu.setRow_row hR2 _, hoku.setRow_row hR2 hnb _, HC, hr.setRow_row hR2 hnb _, below_setRow HB.out (by omega) _⟩
theorem tagE_bad [Inhabited Tab] (K : Int) (ts : List TD) (key msg : List UInt8) (p n m : Nat) (A B C : Option Addr) (c d e : Nat) (w : World) (HP : Hid (ts.length = p)) (HL : Hid (lenT (conT ts))) (ht : RdT w A ts) (hok : okT w ts) (hp : p ≤ 1000000) (hc : p ≤ c) (HR : Hid (rightE K (conT ts) = false)) (HK : Hid (KTab w)) :
    Calls Tryz.prog 101 #[.agg #[.int .i64 K, .slice A p c], .slice B n d, .slice C m e] w (TagBad K ts w) := by
  obtain ⟨hR, hB0⟩ := box_rows w 48 (.int .i64 K) (.slice A p c)
  have hR1 := hR.alloc (.cells #[.int .i64 0, .slice none 0 0] 48)
  have hB := below_new hB0 (.cells #[.int .i64 0, .slice none 0 0] 48)
  have hR2 : Row ((w.alloc (.cells #[.int .i64 K, .slice A p c] 48)).alloc (.cells #[.int .i64 0, .slice none 0 0] 48)) (w.heap.size + 1) 48 [.int .i64 0, .slice none 0 0] := Row.new_at _ _ (by simp) _ _ _ rfl
  replace ht := ht.keep hB
  replace hok := hok.keep hB
  clear hR hB0
  go_enter Tryz.func101, Tryz.ntmps101
  go_upto_region 1 with fail
  generalize (w.alloc (.cells #[.int .i64 K, .slice A p c] 48)).alloc (.cells #[.int .i64 0, .slice none 0 0] 48) = W2 at hR1 hR2 hB ht hok ⊢
  go_wp2_with (refine wpList_load_part rfl 48 (.tmp 3) rfl w.heap.size 0 rfl _ _ hR1 [.int .i64 K, .slice A p c] (by rfl) _ Tryz.underlying48 rfl (by exact size_engine) ?_)
  refine (maker_bad K ts p A c _ HP HL ht hok (by omega) hc HR).mono ?_
  rintro e' w3 ⟨rfl, hb⟩
  replace hR1 := hR1.later hb
  replace hR2 := hR2.later hb
  replace ht := ht.keep hb
  replace hok := hok.keep hb
  replace hB := below_step hB hb
  clear hb
  go_wp2_with (refine wpList_load_part rfl 48 (.tmp 3) rfl w.heap.size 0 rfl _ _ hR1 [.int .i64 K, .slice A p c] (by rfl) _ Tryz.underlying48 rfl (by exact size_engine) ?_)
  refine (ecopied_any K ts p A c _ HP HL ht hok hp hc).mono ?_
  rintro e' w4 ⟨us, A', c', rfl, HU, hpc, hrt, hus, HC, hb⟩
  replace hR2 := hR2.later hb
  have HB := Lib.hid (below_step hB hb)
  clear hb hB hR1 ht hok
  go_wp2_with (refine wpList_store_row rfl 48 (.tmp 6) (.tmp 21) rfl (w.heap.size + 1) rfl [.int .i64 K, .slice A' p c'] rfl _ _ hR2 (by exact size_engine) rfl (one_pair _ _ rfl rfl) ?_)
  refine bodyPost_ret (results_row_tmp2 (p := 6) (u := 7) (v := 8) (ty := 48) (by rfl) _ _ (w.heap.size + 1) 48 _ _ (by rfl) (by exact hR2.setRow _) Tryz.underlying48 (by rfl) (by exact size_engine)) (by rfl) ?_
  have hnb := two_no_byte 0 (.slice none 0 0) (slice_no_byte none 0 0)
  exact ⟨us, p, A', c', none, 0, rfl, HU, hpc, hrt.setRow_row hR2 _, hus.setRow_row hR2 hnb _, HC, below_setRow HB.out (by omega) _⟩
theorem fitsE_any [Inhabited Tab] (K : Int) (ts : List TD) (key msg tag : List UInt8) (p n m q : Nat) (A B C D : Option Addr) (c d e f : Nat) (w : World) (HP : Hid (ts.length = p)) (HL : Hid (lenT (conT ts))) (HN : Hid (key.length = n)) (HM : Hid (msg.length = m)) (HQ : Hid (tag.length = q)) (ht : RdT w A ts) (hok : okT w ts) (hk : Rd vB w B key) (hm : Rd vB w C msg) (hg : Rd vB w D tag) (hp : p ≤ 1000000) (hc : p ≤ c) (hn : n ≤ 1000000) (hmm : m ≤ 1000000) (hq : q ≤ 1000000) (hnd : n ≤ d) (hme : m ≤ e) (hqf : q ≤ f) (HK : Hid (KTab w)) :
    Calls Tryz.prog 110 #[.agg #[.int .i64 K, .slice A p c], .slice B n d, .slice C m e, .slice D q f] w fun e w' => e = .returned (.bool (fitsE K (conT ts) (key, msg) tag)) ∧ Below w.heap.size w w' := by
  obtain ⟨hR, hB⟩ := box_rows w 48 (.int .i64 K) (.slice A p c)
  replace ht := ht.keep hB
  replace hok := hok.keep hB
  replace hk := hk.keep hB
  replace hm := hm.keep hB
  replace hg := hg.keep hB
  replace HK := Lib.hid (HK.out.keep hB)
  obtain ⟨r, hr⟩ : ∃ r, rightE K (conT ts) = r := ⟨_, rfl⟩
  cases r with
  | false =>
    have HF : Hid (fitsE K (conT ts) (key, msg) tag = false) := fitsE_wrong _ _ hr
    go_enter Tryz.func110, Tryz.ntmps110
    go_wp2_with (refine wpList_load_part rfl 48 (.tmp 4) rfl w.heap.size 0 rfl _ _ hR [.int .i64 K, .slice A p c] (by rfl) _ Tryz.underlying48 rfl (by exact size_engine) ?_)
    refine (maker_bad K ts p A c _ HP HL ht hok (by omega) hc (Lib.hid hr)).mono ?_
    rintro e' w3 ⟨rfl, hb⟩
    go_wp2_with fail
    go_ret
    exact ⟨by rw [HF.out]; rfl, below_step hB hb⟩
  | true =>
    rcases rightE_cases hr with ⟨rfl, h0⟩ | ⟨rfl, hT⟩
    · have e0 : p = 0 := by rw [← HP.out, ← conT_length, h0]; rfl
      have HF : Hid (fitsE 1 (conT ts) (key, msg) tag = decide ((macL key msg).take 8 = tag)) := by
        unfold Hid fitsE bytesE
        rw [hr]
        simp
      subst e0
      go_enter Tryz.func110, Tryz.ntmps110
      go_upto_region 2 with (first | (refine wpList_load_part rfl 48 (.tmp 4) rfl w.heap.size 0 rfl _ _ hR [.int .i64 1, .slice A 0 c] (by rfl) _ Tryz.underlying48 rfl (by exact size_engine) ?_) | (go_at_call 76; refine (maker_one A c _).mono ?_; rintro e' w3 ⟨rfl, hb⟩))
      replace hk := hk.keep hb
      replace hm := hm.keep hb
      replace hg := hg.keep hb
      replace HK := Lib.hid (HK.out.keep hb)
      replace hB := below_step hB hb
      clear hb hr ht hok h0
      go_wp2_with fail
      refine (cfits_any 1 key msg tag 0 n m q A B C D c d e f _ HN HM HQ hk hm hg hn hmm hq hnd HK).mono ?_
      rintro e' w4 ⟨rfl, hb⟩
      rw [← HF.out]
      go_wp2_with fail
      go_ret
      exact ⟨rfl, below_step hB hb⟩
    · have HF : Hid (fitsE 2 (conT ts) (key, msg) tag = decide ((key, msg) ∈ conT ts ∧ tagT (conT ts) (key, msg) = tag)) := by
        unfold Hid fitsE bytesE
        rw [hr]
        simp [Bool.decide_and]
      go_enter Tryz.func110, Tryz.ntmps110
      go_upto_region 2 with (first | (refine wpList_load_part rfl 48 (.tmp 4) rfl w.heap.size 0 rfl _ _ hR [.int .i64 2, .slice A p c] (by rfl) _ Tryz.underlying48 rfl (by exact size_engine) ?_) | (go_at_call 76; refine (maker_two ts p A c _ HP HL ht hok (by omega) hc (Lib.hid hT)).mono ?_; rintro e' w3 ⟨rfl, hb⟩))
      replace ht := ht.keep hb
      replace hok := hok.keep hb
      replace hk := hk.keep hb
      replace hm := hm.keep hb
      replace hg := hg.keep hb
      replace hB := below_step hB hb
      clear hb hr
      have HT := Lib.hid hT
      clear hT
      go_wp2_with fail
      refine (sfits_any 2 ts key msg tag p n m q A B C D c d e f _ HP HN HM HQ HL ht hok hk hm hg hp hc hn hmm hq HT).mono ?_
      rintro e' w4 ⟨rfl, hb⟩
      rw [← HF.out]
      go_wp2_with fail
      go_ret
      exact ⟨rfl, below_step hB hb⟩

end Go.Proofs.YtknjpmoimjhddaaGreatDoor
/-
  Layer 14 as plain functions: an activation's bytes, and which activation any bytes are opened to, by whatever fits; sealed and opened; cut, and with more behind. No conditions but those typed.
-/
namespace Go.Proofs.YtknjpmoimjhddaaGreatDoor
set_option maxRecDepth 100000
set_option linter.unusedVariables false
set_option linter.unusedSimpArgs false

/-- An activation's bytes. -/
def actB (t e d : Nat) (s : List UInt8) : List UInt8 := 65 :: (putL t ++ (putL e ++ (putL d ++ (UInt8.ofNat s.length :: s))))
abbrev ResA := Int × Nat × Nat × Nat × List UInt8
/-- How many bytes the Seed has, as told. -/
def seedN (b : List UInt8) : Nat := (b.getD 25 0).toNat
/-- Why the bytes are of no such form (0: they are). -/
def formA (b : List UInt8) : Int :=
  if b.length = 0 then 2 else if b.getD 0 0 ≠ 65 then 3 else if b.length < 26 then 2 else if seedN b = 0 ∨ 32 < seedN b then 3
  else if b.length < 34 + seedN b then 2 else if 34 + seedN b < b.length then 4 else 0
def textA (b : List UInt8) : List UInt8 := b.take (26 + seedN b)
def tagA (b : List UInt8) : List UInt8 := b.drop (26 + seedN b)
def valA (b : List UInt8) : ResA := (0, valN ((b.drop 1).take 8), valN ((b.drop 9).take 8), valN ((b.drop 17).take 8), (b.drop 26).take (seedN b))
/-- Which activation the bytes are opened to: the code, and it. -/
def openA (F : List UInt8 → List UInt8 → Bool) (b : List UInt8) : ResA :=
  if formA b = 0 then (if F (textA b) (tagA b) = true then valA b else (5, 0, 0, 0, [])) else (formA b, 0, 0, 0, [])
theorem act_length (t e d : Nat) (s : List UInt8) : (actB t e d s).length = 26 + s.length := by
  unfold actB
  simp only [List.length_cons, List.length_append, putL_dig, dig_length]
  omega
theorem formA_code (b : List UInt8) : 0 ≤ formA b ∧ formA b ≤ 4 := by
  unfold formA
  repeat' split
  all_goals omega
theorem openA_bad {F : List UInt8 → List UInt8 → Bool} {b : List UInt8} (h : (openA F b).1 ≠ 0) : openA F b = ((openA F b).1, 0, 0, 0, []) := by
  unfold openA at h ⊢
  split
  · rename_i h1
    rw [if_pos h1] at h
    split
    · rename_i h2
      rw [if_pos h2] at h
      exact absurd rfl h
    · rfl
  · rfl
theorem openA_code (F : List UInt8 → List UInt8 → Bool) (b : List UInt8) : 0 ≤ (openA F b).1 ∧ (openA F b).1 ≤ 5 := by
  have := formA_code b
  unfold openA
  split
  · split
    · exact ⟨Int.le_refl 0, (by decide : (0 : Int) ≤ 5)⟩
    · exact ⟨(by decide : (0 : Int) ≤ 5), Int.le_refl 5⟩
  · dsimp only
    omega
/-- The parts of what begins as an activation's bytes do. -/
theorem act_at0 (t e d : Nat) (s r : List UInt8) : (actB t e d s ++ r).getD 0 0 = 65 := rfl
theorem act_seed (t e d : Nat) (s r : List UInt8) (hs : s.length ≤ 32) : seedN (actB t e d s ++ r) = s.length := by
  have e1 : actB t e d s ++ r = (65 :: (putL t ++ (putL e ++ putL d))) ++ (UInt8.ofNat s.length :: (s ++ r)) := by
    unfold actB
    simp only [List.cons_append, List.append_assoc]
  have e2 : (65 :: (putL t ++ (putL e ++ putL d)) : List UInt8).length = 25 := by
    simp only [List.length_cons, List.length_append, putL_dig, dig_length]
  unfold seedN
  rw [e1, List.getD_eq_getElem?_getD, List.getElem?_append_right (by omega), e2]
  show (UInt8.ofNat s.length).toNat = _
  rw [UInt8.toNat_ofNat']
  omega
theorem drop_add {a r : List UInt8} {n m : Nat} (h : a.length = n) : (a ++ r).drop (n + m) = r.drop m := by
  subst h
  rw [List.drop_append]
  have : a.drop (a.length + m) = [] := List.drop_of_length_le (by omega)
  rw [this, List.nil_append, Nat.add_sub_cancel_left]
theorem take_add {a r : List UInt8} {n : Nat} (h : a.length = n) : (a ++ r).take n = a := by
  subst h
  rw [List.take_left]
theorem act_text {t e d : Nat} {s : List UInt8} (h2 : s.length ≤ 32) (r : List UInt8) : textA (actB t e d s ++ r) = actB t e d s := by
  unfold textA
  rw [act_seed t e d s r h2, take_add (act_length t e d s)]
theorem act_tag {t e d : Nat} {s : List UInt8} (h2 : s.length ≤ 32) (r : List UInt8) : tagA (actB t e d s ++ r) = r := by
  unfold tagA
  rw [act_seed t e d s r h2]
  have := drop_add (m := 0) (r := r) (act_length t e d s)
  rwa [List.drop_zero, Nat.add_zero] at this
section
variable {t e d : Nat} {s tag : List UInt8} (ht : t < 18446744073709551616) (he : e < 18446744073709551616) (hd : d < 18446744073709551616) (h1 : 1 ≤ s.length) (h2 : s.length ≤ 32)
theorem act_drops (r : List UInt8) : (actB t e d s ++ r).drop 1 = putL t ++ (putL e ++ (putL d ++ (UInt8.ofNat s.length :: (s ++ r)))) ∧ (actB t e d s ++ r).drop 9 = putL e ++ (putL d ++ (UInt8.ofNat s.length :: (s ++ r))) ∧
    (actB t e d s ++ r).drop 17 = putL d ++ (UInt8.ofNat s.length :: (s ++ r)) ∧ (actB t e d s ++ r).drop 26 = s ++ r := by
  have l8 : ∀ v, (putL v).length = 8 := fun v => by rw [putL_dig, dig_length]
  have e0 : actB t e d s ++ r = [65] ++ (putL t ++ (putL e ++ (putL d ++ (UInt8.ofNat s.length :: (s ++ r))))) := by
    unfold actB
    simp only [List.cons_append, List.append_assoc, List.nil_append]
  have d1 : (actB t e d s ++ r).drop 1 = putL t ++ (putL e ++ (putL d ++ (UInt8.ofNat s.length :: (s ++ r)))) := by rw [e0]; rfl
  have d9 : (actB t e d s ++ r).drop 9 = putL e ++ (putL d ++ (UInt8.ofNat s.length :: (s ++ r))) := by
    rw [e0]
    show (putL t ++ _).drop (8 + 0) = _
    rw [drop_add (l8 t), List.drop_zero]
  have d17 : (actB t e d s ++ r).drop 17 = putL d ++ (UInt8.ofNat s.length :: (s ++ r)) := by
    rw [e0]
    show (putL t ++ _).drop (8 + (8 + 0)) = _
    rw [drop_add (l8 t), drop_add (l8 e), List.drop_zero]
  refine ⟨d1, d9, d17, ?_⟩
  rw [e0]
  show (putL t ++ _).drop (8 + (8 + (8 + 1))) = _
  rw [drop_add (l8 t), drop_add (l8 e), drop_add (l8 d)]
  rfl
theorem act_val {t e d : Nat} {s : List UInt8} (ht : t < 18446744073709551616) (he : e < 18446744073709551616) (hd : d < 18446744073709551616) (h2 : s.length ≤ 32) (r : List UInt8) : valA (actB t e d s ++ r) = (0, t, e, d, s) := by
  obtain ⟨d1, d9, d17, d26⟩ := act_drops (t := t) (e := e) (d := d) (s := s) r
  have l8 : ∀ v, (putL v).length = 8 := fun v => by rw [putL_dig, dig_length]
  unfold valA
  rw [d1, d9, d17, d26, act_seed t e d s r h2, take_add (l8 t), take_add (l8 e), take_add (l8 d), take_add rfl, valN_putL t ht, valN_putL e he, valN_putL d hd]
include h1 h2
theorem act_form (r : List UInt8) : formA (actB t e d s ++ r) = if r.length < 8 then 2 else if 8 < r.length then 4 else 0 := by
  have hl := act_length t e d s
  have hs := act_seed t e d s r h2
  have hll : (actB t e d s ++ r).length = 26 + s.length + r.length := by rw [List.length_append, hl]
  unfold formA
  rw [hs, hll, act_at0, if_neg (by omega), if_neg (by simp), if_neg (by omega), if_neg (by omega)]
  by_cases h8 : r.length < 8
  · rw [if_pos (by omega), if_pos h8]
  · rw [if_neg (by omega), if_neg h8]
    by_cases h9 : 8 < r.length
    · rw [if_pos (by omega), if_pos h9]
    · rw [if_neg (by omega), if_neg h9]
include ht he hd
/-- What was sealed is opened as it was. -/
theorem open_seal (F : List UInt8 → List UInt8 → Bool) (h8 : tag.length = 8) (hF : F (actB t e d s) tag = true) : openA F (actB t e d s ++ tag) = (0, t, e, d, s) := by
  have hf : formA (actB t e d s ++ tag) = 0 := by rw [act_form h1 h2, if_neg (by omega), if_neg (by omega)]
  unfold openA
  rw [hf, if_pos rfl, act_text h2, act_tag h2, if_pos hF, act_val ht he hd h2]
end
/-- What is opened is the sealed bytes of that. -/
theorem open_good (F : List UInt8 → List UInt8 → Bool) (b : List UInt8) (t e d : Nat) (s : List UInt8) (h : openA F b = (0, t, e, d, s)) :
    ∃ tag, b = actB t e d s ++ tag ∧ tag.length = 8 ∧ F (actB t e d s) tag = true ∧ 1 ≤ s.length ∧ s.length ≤ 32 ∧ t < 18446744073709551616 ∧ e < 18446744073709551616 ∧ d < 18446744073709551616 := by
  unfold openA at h
  split at h
  · rename_i h0
    split at h
    · rename_i hF
      unfold formA at h0
      split at h0
      · omega
      · rename_i hl0
        split at h0
        · omega
        · rename_i h65
          split at h0
          · omega
          · rename_i h26
            split at h0
            · omega
            · rename_i hn
              split at h0
              · omega
              · rename_i ha
                split at h0
                · omega
                · rename_i hb
                  have hlen : b.length = 34 + seedN b := by omega
                  unfold valA at h
                  simp only [Prod.mk.injEq, true_and] at h
                  obtain ⟨e1, e2, e3, e4⟩ := h
                  have hsl : s.length = seedN b := by rw [← e4, List.length_take, List.length_drop]; omega
                  have l1 : ((b.drop 1).take 8).length = 8 := by rw [List.length_take, List.length_drop]; omega
                  have l2 : ((b.drop 9).take 8).length = 8 := by rw [List.length_take, List.length_drop]; omega
                  have l3 : ((b.drop 17).take 8).length = 8 := by rw [List.length_take, List.length_drop]; omega
                  have p1 : putL t = (b.drop 1).take 8 := by rw [← e1, putL_dig, dig_valN _ 8 l1]
                  have p2 : putL e = (b.drop 9).take 8 := by rw [← e2, putL_dig, dig_valN _ 8 l2]
                  have p3 : putL d = (b.drop 17).take 8 := by rw [← e3, putL_dig, dig_valN _ 8 l3]
                  have h65' : b.getD 0 0 = 65 := Classical.byContradiction h65
                  have htext : textA b = actB t e d s := by
                    unfold textA actB
                    rw [p1, p2, p3, hsl, show seedN b = (b.getD 25 0).toNat from rfl, UInt8.ofNat_toNat, ← e4]
                    have c0 : b = b.getD 0 0 :: b.drop 1 := by
                      cases b with
                      | nil => simp at hl0
                      | cons x b => rfl
                    have c25 : (b.drop 17).drop 8 = b.getD 25 0 :: b.drop 26 := by
                      rw [List.drop_drop, List.drop_eq_getElem_cons (by omega)]
                      congr 1
                      rw [List.getD_eq_getElem?_getD, List.getElem?_eq_getElem (by omega)]
                      rfl
                    have q17 : b.drop 17 = (b.drop 17).take 8 ++ (b.getD 25 0 :: b.drop 26) := by rw [← c25, List.take_append_drop]
                    have q9 : b.drop 9 = (b.drop 9).take 8 ++ b.drop 17 := by
                      have := (List.take_append_drop 8 (b.drop 9)).symm
                      rwa [List.drop_drop] at this
                    have q1 : b.drop 1 = (b.drop 1).take 8 ++ b.drop 9 := by
                      have := (List.take_append_drop 8 (b.drop 1)).symm
                      rwa [List.drop_drop] at this
                    have hfull : b = 65 :: ((b.drop 1).take 8 ++ ((b.drop 9).take 8 ++ ((b.drop 17).take 8 ++ (b.getD 25 0 :: b.drop 26)))) := by
                      rw [← q17, ← q9, ← q1, ← h65']
                      exact c0
                    have hN : (b.getD 25 0).toNat = seedN b := rfl
                    rw [hN]
                    generalize (b.drop 1).take 8 = x1 at *
                    generalize (b.drop 9).take 8 = x2 at *
                    generalize (b.drop 17).take 8 = x3 at *
                    generalize b.drop 26 = x4 at *
                    generalize b.getD 25 0 = x5 at *
                    generalize seedN b = m at *
                    conv => lhs; rw [hfull]
                    rw [show 26 + m = (25 + m) + 1 by omega, List.take_succ_cons]
                    congr 1
                    rw [List.take_append, List.take_of_length_le (by omega), l1]
                    congr 1
                    rw [List.take_append, List.take_of_length_le (by omega), l2]
                    congr 1
                    rw [List.take_append, List.take_of_length_le (by omega), l3]
                    congr 1
                    rw [show 25 + m - 8 - 8 - 8 = m + 1 by omega, List.take_succ_cons]
                  refine ⟨tagA b, ?_, ?_, by rw [← htext]; exact hF, by omega, by omega, ?_, ?_, ?_⟩
                  · rw [← htext]
                    exact (List.take_append_drop _ b).symm
                  · unfold tagA
                    rw [List.length_drop]
                    omega
                  · rw [← e1]; exact valN_lt8 _ (by omega)
                  · rw [← e2]; exact valN_lt8 _ (by omega)
                  · rw [← e3]; exact valN_lt8 _ (by omega)
    · simp only [Prod.mk.injEq] at h
      omega
  · rename_i h0
    simp only [Prod.mk.injEq] at h
    exact absurd h.1 h0
/-- Cut anywhere it is too short. -/
theorem open_cut (F : List UInt8 → List UInt8 → Bool) (t e d : Nat) (s tag : List UInt8) (h1 : 1 ≤ s.length) (h2 : s.length ≤ 32) (h8 : tag.length = 8) (k : Nat) (hk : k < (actB t e d s ++ tag).length) : openA F ((actB t e d s ++ tag).take k) = (2, 0, 0, 0, []) := by
  have hl := act_length t e d s
  have hll : (actB t e d s ++ tag).length = 26 + s.length + 8 := by rw [List.length_append, hl, h8]
  have hf : formA ((actB t e d s ++ tag).take k) = 2 := by
    have hkl : ((actB t e d s ++ tag).take k).length = k := by rw [List.length_take]; omega
    rcases Nat.eq_zero_or_pos k with hk0 | hk0
    · subst hk0
      rfl
    · by_cases h26 : k < 26
      · unfold formA
        rw [hkl, if_neg (by omega)]
        have h0 : ((actB t e d s ++ tag).take k).getD 0 0 = 65 := by
          rw [List.getD_eq_getElem?_getD, List.getElem?_take, if_pos hk0]
          rfl
        rw [h0, if_neg (by simp), if_pos h26]
      · have hs : seedN ((actB t e d s ++ tag).take k) = s.length := by
          have := act_seed t e d s tag h2
          unfold seedN at this ⊢
          rw [List.getD_eq_getElem?_getD, List.getElem?_take, if_pos (by omega), ← List.getD_eq_getElem?_getD]
          exact this
        have h0 : ((actB t e d s ++ tag).take k).getD 0 0 = 65 := by
          rw [List.getD_eq_getElem?_getD, List.getElem?_take, if_pos hk0]
          rfl
        unfold formA
        rw [hs, hkl, h0, if_neg (by omega), if_neg (by simp), if_neg (by omega), if_neg (by omega), if_pos (by omega)]
  unfold openA
  rw [hf, if_neg (by decide)]
theorem open_more (F : List UInt8 → List UInt8 → Bool) (t e d : Nat) (s tag : List UInt8) (h1 : 1 ≤ s.length) (h2 : s.length ≤ 32) (h8 : tag.length = 8) (c : UInt8) : openA F (actB t e d s ++ tag ++ [c]) = (4, 0, 0, 0, []) := by
  have hf : formA (actB t e d s ++ tag ++ [c]) = 4 := by
    rw [List.append_assoc, act_form h1 h2, if_neg (by rw [List.length_append]; omega), if_pos (by rw [List.length_append, List.length_singleton]; omega)]
  unfold openA
  rw [hf, if_neg (by decide)]
theorem act_inj {t e d t' e' d' : Nat} {s s' : List UInt8} (ht : t < 18446744073709551616) (he : e < 18446744073709551616) (hd : d < 18446744073709551616) (ht' : t' < 18446744073709551616) (he' : e' < 18446744073709551616) (hd' : d' < 18446744073709551616) (h1 : 1 ≤ s.length) (h2 : s.length ≤ 32) (h1' : 1 ≤ s'.length) (h2' : s'.length ≤ 32) (h : actB t e d s = actB t' e' d' s') : t = t' ∧ e = e' ∧ d = d' ∧ s = s' := by
  have v := act_val ht he hd h2 []
  rw [List.append_nil, h, ← List.append_nil (actB t' e' d' s'), act_val ht' he' hd' h2' []] at v
  simp only [Prod.mk.injEq, true_and] at v
  obtain ⟨rfl, rfl, rfl, rfl⟩ := v
  exact ⟨rfl, rfl, rfl, rfl⟩
end Go.Proofs.YtknjpmoimjhddaaGreatDoor
/-
  What the program's package seal answers (landed code): Fault, Put, Check. Condition: the package's table holds sixty-four words (for tags).
-/
namespace Go.Proofs.YtknjpmoimjhddaaGreatDoor
set_option maxRecDepth 100000
open Go.RowKit
set_option linter.unusedSimpArgs false
set_option linter.unusedVariables false

theorem faultA_any (k : Int) (w : World) :
    Calls Tryz.prog 68 #[.int .i64 k] w fun e w' => ∃ g, e = .returned (errV g) ∧ Flt w' g 4 k ∧ Below w.heap.size w w' ∧ w.heap.size ≤ g := by
  go_enter Tryz.func68, Tryz.ntmps68
  go_wp2_with fail
  go_ret
  exact ⟨_, rfl, Row.new w _ _ _ rfl, below_new (Below.refl _ _) _, Nat.le_refl _⟩

theorem errV_inj {g g' : Nat} (h : errV g = errV g') : g = g' := by
  unfold errV at h
  simp at h
  exact h

/-- Blocks of unlike types are unlike. -/
theorem Row.ne_type {w : World} {g g' : Nat} {t t' : TypeId} {l l' : List Value} (h : Row w g t l) (k : Row w g' t' l') (ht : t ≠ t') : g ≠ g' := fun e => by
  subst e
  have := h.symm.trans k
  simp at this
  exact ht this.2
theorem Flt.ne_engine {W : World} {f g : Nat} {s k : Int} {l : List Value} (h : Flt W f s k) (hg : Row W g 48 l) : f ≠ g := Row.ne_type h hg (by decide)

/-! ### Put -/
/-- Three results, the first of them a whole block. -/
def SealBad (K : Int) (ts : List TD) (w : World) (e : Ending) (w' : World) : Prop :=
  ∃ (us : List TD) (p : Nat) (A : Option Addr) (c g : Nat) (tA : Option Addr) (tc : Nat), e = .returned (.tuple #[.agg #[.int .i64 K, .slice A p c], .slice tA 0 tc, errV g]) ∧ Hid (us.length = p) ∧ p ≤ c ∧ RdT w' A us ∧ okT w' us ∧ Hid (conT us = conT ts) ∧ Flt w' g 4 1 ∧ Below w.heap.size w w'
/-- Put hands back the engine behind the tag, the bytes with the tag behind them, and no error. -/
def PutGood [Inhabited Tab] (K : Int) (ts : List TD) (key x : List UInt8) (w : World) (e₁ : Ending) (w' : World) : Prop :=
  ∃ (us : List TD) (p : Nat) (A : Option Addr) (c n : Nat) (tA : Option Addr) (tc : Nat), e₁ = .returned (.tuple #[.agg #[.int .i64 K, .slice A p c], .slice tA n tc, .nilIface]) ∧ Hid (us.length = p) ∧ p ≤ c ∧ RdT w' A us ∧ okT w' us ∧ Hid (conT us = termsE K (conT ts) (key, x)) ∧ Hid ((x ++ bytesE K (conT ts) (key, x)).length = n) ∧ n ≤ tc ∧ Rd vB w' tA (x ++ bytesE K (conT ts) (key, x)) ∧ Below w.heap.size w w'
set_option maxHeartbeats 4000000 in
theorem putE_bad [Inhabited Tab] (K : Int) (ts : List TD) (key x : List UInt8) (p n len : Nat) (A B D : Option Addr) (c bd f : Nat) (w : World) (HP : Hid (ts.length = p)) (HL : Hid (lenT (conT ts))) (ht : RdT w A ts) (hok : okT w ts) (hp : p ≤ 1000000) (hc : p ≤ c) (HR : Hid (rightE K (conT ts) = false)) (HK : Hid (KTab w)) :
    Calls Tryz.prog 69 #[.agg #[.int .i64 K, .slice A p c], .slice B n bd, .slice D len f] w (SealBad K ts w) := by
  obtain ⟨hR, hB0⟩ := box_rows w 48 (.int .i64 K) (.slice A p c)
  have hR1 := hR.alloc (.cells #[.int .i64 0, .slice none 0 0] 48)
  have hR2 : Row ((w.alloc (.cells #[.int .i64 K, .slice A p c] 48)).alloc (.cells #[.int .i64 0, .slice none 0 0] 48)) (w.heap.size + 1) 48 [.int .i64 0, .slice none 0 0] := Row.new_at _ _ (by simp) _ _ _ rfl
  have hB := below_new hB0 (.cells #[.int .i64 0, .slice none 0 0] 48)
  replace ht := ht.keep hB
  replace hok := hok.keep hB
  replace HK := Lib.hid (HK.out.keep hB)
  clear hR hB0
  go_enter Tryz.func69, Tryz.ntmps69
  go_upto_region 1 with fail
  generalize (w.alloc (.cells #[.int .i64 K, .slice A p c] 48)).alloc (.cells #[.int .i64 0, .slice none 0 0] 48) = W2 at hR1 hR2 hB ht hok HK ⊢
  go_wp2_with (refine wpList_load_part rfl 48 (.tmp 3) rfl w.heap.size 0 rfl _ _ hR1 [.int .i64 K, .slice A p c] (by rfl) _ Tryz.underlying48 rfl (by exact size_engine) ?_)
  refine (tagE_bad K ts key x p n len A B D c bd f _ HP HL ht hok hp hc HR HK).mono ?_
  rintro e' w4 ⟨us, q, A', c', tA, tc, rfl, HU, hpc, hrt, hus, HC, hb⟩
  replace hR2 := hR2.later hb
  replace hB := below_step hB hb
  clear hb hR1 ht hok HK
  have hR3 : Row (w4.alloc (.cells #[.int .i64 0, .slice none 0 0] 48)) w4.heap.size 48 [.int .i64 0, .slice none 0 0] := Row.new w4 _ _ _ rfl
  go_upto_region 2 with (refine wpList_store_row rfl 48 (.tmp 9) (.tmp 17) rfl w4.heap.size rfl [.int .i64 K, .slice A' q c'] rfl _ _ hR3 (by exact size_engine) rfl (one_pair _ _ rfl rfl) ?_)
  have hR4 := hR3.setRow [.int .i64 K, .slice A' q c']
  have hbn : Below w4.heap.size w4 ((w4.alloc (.cells #[.int .i64 0, .slice none 0 0] 48)).setRow w4.heap.size [.int .i64 K, .slice A' q c'].toArray) := below_setRow (below_new (Below.refl _ _) _) (Nat.le_refl _) _
  have hlt := hR2.lt
  generalize (w4.alloc (.cells #[.int .i64 0, .slice none 0 0] 48)).setRow w4.heap.size [.int .i64 K, .slice A' q c'].toArray = w5 at hR4 hbn ⊢
  replace hR2 := hR2.later hbn
  replace hrt := hrt.keep hbn
  replace hus := hus.keep hbn
  replace hB := below_step hB hbn
  clear hbn
  clear hR3
  generalize w4.heap.size = g4 at hR4 hlt ⊢
  go_upto_region 3 with fail
  have hS : termS g4 (.int .i64 K) (.slice A' q c') w5.drew := ⟨hR4.drew.cell rfl, hR4.drew.cell rfl⟩
  replace hR2 := hR2.drew
  replace hR4 := hR4.drew
  replace hrt := hrt.keep ((Below.refl w5.heap.size w5).drew)
  replace hus := hus.keep ((Below.refl w5.heap.size w5).drew)
  replace hB := hB.drew
  refine wp_region_plan_of (termS g4 (.int .i64 K) (.slice A' q c')) (.step 0 false (.step 1 false (.step 2 true (.step 3 true (.step 4 false (.step 5 false (.nil))))))) hS (by kernel_rfl) (by kernel_rfl) (by rfl) (by kernel_rfl) ?_
  generalize w5.drew = w6 at *
  iterate 2 (refine plan_read rfl (by rfl) (v := ?_) ?_ ?_; rotate_left 1; (intro W hW; (try dsimp only at hW); obtain ⟨hW0, hW1⟩ := hW; go_simp <;> with_reducible rfl); simp only [List.getElem_toArray, List.getElem_cons_zero, List.getElem_cons_succ, Act.put, List.setIfInBounds_toArray, List.set_cons_zero, List.set_cons_succ])
  (refine plan_make_of rfl (by rfl) (fun K hK => ?_); go_simp; refine (faultA_any 1 w6).mono ?_; rintro e' w7 ⟨g, rfl, hF, hb, hgg⟩; refine hK.out _ _ ⟨(hR4.later hb).cell rfl, (hR4.later hb).cell rfl⟩ ?_; clear hK K)
  have hlt2 := hR2.lt
  replace hR2 := hR2.later hb
  replace hR4 := hR4.later hb
  replace hB := below_step hB hb
  replace hrt := hrt.keep hb
  replace hus := hus.keep hb
  clear hb
  (refine plan_make_of rfl (by rfl) (fun K hK => ?_); refine Row.wp_store 48 (.tmp 6) (.tmp 22) rfl rfl [.int .i64 _, .slice A' q c'] rfl hR2 (by exact size_engine) rfl (one_pair _ _ rfl rfl) ?_; refine hK.out _ _ ⟨(hR4.setRow_other (by omega) _).cell rfl, (hR4.setRow_other (by omega) _).cell rfl⟩ ?_; clear hK K)
  iterate 2 (refine plan_read rfl (by rfl) (v := ?_) ?_ ?_; rotate_left 1; (intro W hW; (try dsimp only at hW); obtain ⟨hW0, hW1⟩ := hW; go_simp <;> with_reducible rfl); simp only [List.getElem_toArray, List.getElem_cons_zero, List.getElem_cons_succ, Act.put, List.setIfInBounds_toArray, List.set_cons_zero, List.set_cons_succ])
  refine plan_done ?_
  have hnb := two_no_byte 0 (.slice none 0 0) (slice_no_byte none 0 0)
  have hrt' := hrt.setRow_row hR2 [.int .i64 K, .slice A' q c'].toArray
  have hus' := hus.setRow_row hR2 hnb [.int .i64 K, .slice A' q c'].toArray
  have hF' : Flt (w7.setRow (w.heap.size + 1) [.int .i64 K, .slice A' q c'].toArray) g 4 1 := Row.setRow_other hF (by omega) _
  have hR5 := hR2.setRow [.int .i64 K, .slice A' q c']
  have hB5 := below_setRow hB (Nat.le_add_right _ 1) [.int .i64 K, .slice A' q c'].toArray
  generalize w7.setRow (w.heap.size + 1) [.int .i64 K, .slice A' q c'].toArray = w8 at hrt' hus' hF' hR5 hB5 ⊢
  go_wp2_with fail
  refine bodyPost_ret (results_row_tmp2 (p := 6) (u := 7) (v := 8) (ty := 48) (by rfl) _ _ (w.heap.size + 1) 48 _ _ (by rfl) (by exact hR5) Tryz.underlying48 (by rfl) (by exact size_engine)) (by rfl) ?_
  exact ⟨us, q, A', c', g, none, 0, rfl, HU, hpc, hrt', hus', HC, hF', hB5⟩
set_option maxHeartbeats 4000000 in
theorem putE_good [Inhabited Tab] (K : Int) (ts : List TD) (key x : List UInt8) (p n len : Nat) (A B D : Option Addr) (c bd f : Nat) (w : World) (HP : Hid (ts.length = p)) (HL : Hid (lenT (conT ts))) (ht : RdT w A ts) (hok : okT w ts) (hp : p ≤ 1000000) (hc : p ≤ c)
    (HN : Hid (key.length = n)) (hrk : Rd vB w B key) (hn : n ≤ 1000000) (hnb : n ≤ bd) (HX : Hid (x.length = len)) (hrx : Rd vB w D x) (hlx : len ≤ 1000000) (hxf : len ≤ f) (HR : Hid (rightE K (conT ts) = true)) (HK : Hid (KTab w)) :
    Calls Tryz.prog 69 #[.agg #[.int .i64 K, .slice A p c], .slice B n bd, .slice D len f] w (PutGood K ts key x w) := by
  obtain ⟨hR, hB0⟩ := box_rows w 48 (.int .i64 K) (.slice A p c)
  have hR1 := hR.alloc (.cells #[.int .i64 0, .slice none 0 0] 48)
  have hR2 : Row ((w.alloc (.cells #[.int .i64 K, .slice A p c] 48)).alloc (.cells #[.int .i64 0, .slice none 0 0] 48)) (w.heap.size + 1) 48 [.int .i64 0, .slice none 0 0] := Row.new_at _ _ (by simp) _ _ _ rfl
  have hB := below_new hB0 (.cells #[.int .i64 0, .slice none 0 0] 48)
  replace ht := ht.keep hB
  replace hok := hok.keep hB
  replace hrk := hrk.keep hB
  replace hrx := hrx.keep hB
  replace HK := Lib.hid (HK.out.keep hB)
  clear hR hB0
  go_enter Tryz.func69, Tryz.ntmps69
  go_upto_region 1 with fail
  generalize (w.alloc (.cells #[.int .i64 K, .slice A p c] 48)).alloc (.cells #[.int .i64 0, .slice none 0 0] 48) = W2 at hR1 hR2 hB ht hok hrk hrx HK ⊢
  have HTL := Lib.hid (bytesE_length K (conT ts) (key, x))
  go_wp2_with (refine wpList_load_part rfl 48 (.tmp 3) rfl w.heap.size 0 rfl _ _ hR1 [.int .i64 K, .slice A p c] (by rfl) _ Tryz.underlying48 rfl (by exact size_engine) ?_)
  refine (tagE_good K ts key x p n len A B D c bd f _ HP HL HN HX ht hok hrk hrx hp hc hn hlx hnb hxf HR HK).mono ?_
  rintro e' w4 ⟨us, q, A', c', tA, tc, rfl, HU, hpc, htc, hrt, hus, HC, hrg, hb⟩
  replace hR2 := hR2.later hb
  replace hrx := hrx.keep hb
  replace hB := below_step hB hb
  clear hb hR1 ht hok HK hrk
  have hR3 : Row (w4.alloc (.cells #[.int .i64 0, .slice none 0 0] 48)) w4.heap.size 48 [.int .i64 0, .slice none 0 0] := Row.new w4 _ _ _ rfl
  go_upto_region 2 with (refine wpList_store_row rfl 48 (.tmp 9) (.tmp 17) rfl w4.heap.size rfl [.int .i64 K, .slice A' q c'] rfl _ _ hR3 (by exact size_engine) rfl (one_pair _ _ rfl rfl) ?_)
  have hR4 := hR3.setRow [.int .i64 K, .slice A' q c']
  have hbn : Below w4.heap.size w4 ((w4.alloc (.cells #[.int .i64 0, .slice none 0 0] 48)).setRow w4.heap.size [.int .i64 K, .slice A' q c'].toArray) := below_setRow (below_new (Below.refl _ _) _) (Nat.le_refl _) _
  have hlt := hR2.lt
  generalize (w4.alloc (.cells #[.int .i64 0, .slice none 0 0] 48)).setRow w4.heap.size [.int .i64 K, .slice A' q c'].toArray = w5 at hR4 hbn ⊢
  replace hR2 := hR2.later hbn
  replace hrt := hrt.keep hbn
  replace hus := hus.keep hbn
  replace hrx := hrx.keep hbn
  replace hrg := hrg.keep hbn
  replace hB := below_step hB hbn
  clear hbn
  clear hR3
  generalize w4.heap.size = g4 at hR4 hlt ⊢
  go_upto_region 4 with fail
  have hS : termS g4 (.int .i64 K) (.slice A' q c') w5.drew := ⟨hR4.drew.cell rfl, hR4.drew.cell rfl⟩
  replace hR2 := hR2.drew
  replace hR4 := hR4.drew
  replace hrt := hrt.keep ((Below.refl w5.heap.size w5).drew)
  replace hus := hus.keep ((Below.refl w5.heap.size w5).drew)
  replace hrx := hrx.keep ((Below.refl w5.heap.size w5).drew)
  replace hrg := hrg.keep ((Below.refl w5.heap.size w5).drew)
  replace hB := hB.drew
  obtain ⟨T, hT⟩ : ∃ T, bytesE K (conT ts) (key, x) = T := ⟨_, rfl⟩
  have HT := Lib.hid hT
  rw [hT] at hrg HTL
  obtain ⟨Z, hZ⟩ : ∃ Z, x ++ T = Z := ⟨_, rfl⟩
  have HXZ : Hid (Z = x ++ T) := hZ.symm
  have HZL : Hid (Z.length = len + 8) := by unfold Hid; rw [← hZ, List.length_append, HX.out, HTL.out]
  clear hT hZ
  refine wp_region_plan_of (termS g4 (.int .i64 K) (.slice A' q c')) (.step 0 false (.step 1 false (.step 2 false (.step 3 true (.step 4 true (.step 5 true (.step 6 false (.step 7 false (.nil))))))))) hS (by kernel_rfl) (by kernel_rfl) (by rfl) (by kernel_rfl) ?_
  generalize w5.drew = w6 at *
  iterate 3 (refine plan_read rfl (by rfl) (v := ?_) ?_ ?_; rotate_left 1; (intro W hW; (try dsimp only at hW); obtain ⟨hW0, hW1⟩ := hW; go_simp <;> with_reducible rfl); simp only [List.getElem_toArray, List.getElem_cons_zero, List.getElem_cons_succ, Act.put, List.setIfInBounds_toArray, List.set_cons_zero, List.set_cons_succ])
  have hP : Rd vPart (w6.alloc (.cells #[.slice D len f, .slice tA 8 tc] 27)) (some ⟨w6.heap.size, 0, none⟩) [⟨D, f, x⟩, ⟨tA, tc, T⟩] := Rd.new_at w6 _ rfl _ _ _ (by simp [vPart, HX.out, HTL.out])
  have hb3 := below_new (Below.refl _ w6) (.cells #[.slice D len f, .slice tA 8 tc] 27)
  have hlt2 := hR2.lt
  (refine plan_make_of rfl (by rfl) (fun K hK => ?_); go_simp; refine hK.out _ _ ⟨(hR4.later hb3).cell rfl, (hR4.later hb3).cell rfl⟩ ?_; clear hK K)
  replace hR2 := hR2.later hb3
  replace hR4 := hR4.later hb3
  replace hB := below_step hB hb3
  replace hrt := hrt.keep hb3
  replace hus := hus.keep hb3
  replace hrx := hrx.keep hb3
  replace hrg := hrg.keep hb3
  have hsz : w6.heap.size < (w6.alloc (.cells #[.slice D len f, .slice tA 8 tc] 27)).heap.size := by simp
  generalize (w6.alloc (.cells #[.slice D len f, .slice tA 8 tc] 27)) = w7 at *
  (refine plan_make_of rfl (by rfl) (fun K hK => ?_); go_simp; refine (concat_two x T Z D tA f tc _ _ _ HXZ hP hrx hrg (by rw [HZL.out]; omega)).mono ?_; rintro e' w8 ⟨A8, c8, rfl, hc8, hr8, hN8, hb8⟩; refine hK.out _ _ ⟨(hR4.later hb8).cell rfl, (hR4.later hb8).cell rfl⟩ ?_; clear hK K)
  rw [HZL.out] at hc8
  replace hR2 := hR2.later hb8
  replace hR4 := hR4.later hb8
  replace hB := below_step hB hb8
  replace hrt := hrt.keep hb8
  replace hus := hus.keep hb8
  clear hb3 hP
  (refine plan_make_of rfl (by rfl) (fun K hK => ?_); refine Row.wp_store 48 (.tmp 6) (.tmp 25) rfl rfl [.int .i64 _, .slice A' q c'] rfl hR2 (by exact size_engine) rfl (one_pair _ _ rfl rfl) ?_; refine hK.out _ _ ⟨(hR4.setRow_other (by omega) _).cell rfl, (hR4.setRow_other (by omega) _).cell rfl⟩ ?_; clear hK K)
  iterate 2 (refine plan_read rfl (by rfl) (v := ?_) ?_ ?_; rotate_left 1; (intro W hW; (try dsimp only at hW); obtain ⟨hW0, hW1⟩ := hW; go_simp <;> with_reducible rfl); simp only [List.getElem_toArray, List.getElem_cons_zero, List.getElem_cons_succ, Act.put, List.setIfInBounds_toArray, List.set_cons_zero, List.set_cons_succ])
  refine plan_done ?_
  have hnb := two_no_byte 0 (.slice none 0 0) (slice_no_byte none 0 0)
  have hrt' := hrt.setRow_row hR2 [.int .i64 K, .slice A' q c'].toArray
  have hus' := hus.setRow_row hR2 hnb [.int .i64 K, .slice A' q c'].toArray
  have hr9 := hr8.setRow_row hR2 hnb [.int .i64 K, .slice A' q c'].toArray
  have hR5 := hR2.setRow [.int .i64 K, .slice A' q c']
  have hB5 := below_setRow hB (Nat.le_add_right _ 1) [.int .i64 K, .slice A' q c'].toArray
  generalize w8.setRow (w.heap.size + 1) [.int .i64 K, .slice A' q c'].toArray = w9 at hrt' hus' hr9 hR5 hB5 ⊢
  go_wp2_with fail
  refine bodyPost_ret (results_row_tmp2 (p := 6) (u := 7) (v := 8) (ty := 48) (by rfl) _ _ (w.heap.size + 1) 48 _ _ (by rfl) (by exact hR5) Tryz.underlying48 (by rfl) (by exact size_engine)) (by rfl) ?_
  unfold PutGood
  rw [HT.out, ← HXZ.out, HZL.out]
  exact ⟨us, q, A', c', len + 8, A8, c8, rfl, HU, hpc, hrt', hus', HC, Lib.hid rfl, hc8, hr9, hB5⟩

/-! ### Check -/
/-- What is wrong with the tag behind the first bytes, if something is. -/
def checkE [Inhabited Tab] (K : Int) (cs : List Tm) (key b : List UInt8) (q : Nat) : Int := if b.length < q + 8 then 2 else if q + 8 < b.length then 4 else if fitsE K cs (key, b.take q) (b.drop q) = true then 0 else 5
theorem check_len [Inhabited Tab] {Kn : Int} {cs : List Tm} {key b : List UInt8} {q : Nat} (h : checkE Kn cs key b q = 0) : b.length = q + 8 := by
  unfold checkE at h
  split at h
  · omega
  · split at h
    · omega
    · omega
set_option maxHeartbeats 4000000 in
theorem checkE_any [Inhabited Tab] (Kn : Int) (ts : List TD) (key b : List UInt8) (p n len q : Nat) (A B D : Option Addr) (c bd f : Nat) (w : World) (HP : Hid (ts.length = p)) (HL : Hid (lenT (conT ts))) (ht : RdT w A ts) (hok : okT w ts) (hp : p ≤ 1000000) (hc : p ≤ c)
    (HN : Hid (key.length = n)) (hrk : Rd vB w B key) (hn : n ≤ 1000000) (hnb : n ≤ bd) (HB : Hid (b.length = len)) (hrb : Rd vB w D b) (hf : len ≤ f) (hl : len ≤ 1000000) (hq : q ≤ 1000000) (HK : Hid (KTab w)) :
    Calls Tryz.prog 74 #[.agg #[.int .i64 Kn, .slice A p c], .slice B n bd, .slice D len f, .int .i64 (q : Int)] w fun e w' => ∃ ev, e = .returned ev ∧ ErrV w' ev 4 (checkE Kn (conT ts) key b q) ∧ Below w.heap.size w w' ∧ ∀ g, ev = errV g → w.heap.size ≤ g := by
  obtain ⟨X, hX⟩ : ∃ X, checkE Kn (conT ts) key b q = X := ⟨_, rfl⟩
  rw [hX]
  unfold checkE at hX
  rw [HB.out] at hX
  obtain ⟨hR, hB⟩ := box_rows w 48 (.int .i64 Kn) (.slice A p c)
  replace ht := ht.keep hB
  replace hok := hok.keep hB
  replace hrk := hrk.keep hB
  replace hrb := hrb.keep hB
  replace HK := Lib.hid (HK.out.keep hB)
  go_enter Tryz.func74, Tryz.ntmps74
  go_upto_region 1 with fail
  generalize (w.alloc (.cells #[.int .i64 Kn, .slice A p c] 48)) = W2 at hR hB ht hok hrk hrb HK ⊢
  by_cases h1 : len < q + 8
  · rw [if_pos h1] at hX
    subst hX
    have z1 : (len : Int) < (q : Int) + 8 := by omega
    clear ht hok hrk hrb HK
    go_wp2_with fail
    refine (faultA_any 2 _).mono ?_
    rintro e' w5 ⟨g5, rfl, hF, hb, hgg⟩
    have hgB := hB.size
    go_wp2_with fail
    go_ret
    exact ⟨_, rfl, .inr ⟨by decide, g5, rfl, hF⟩, below_step hB hb, fun g hg => by have := errV_inj hg; omega⟩
  · rw [if_neg h1] at hX
    have z1 : ¬ (len : Int) < (q : Int) + 8 := by omega
    by_cases h2 : q + 8 < len
    · rw [if_pos h2] at hX
      subst hX
      have z2 : (q : Int) + 8 < (len : Int) := by omega
      clear ht hok hrk hrb HK
      go_wp2_with fail
      refine (faultA_any 4 _).mono ?_
      rintro e' w5 ⟨g5, rfl, hF, hb, hgg⟩
      have hgB := hB.size
      go_wp2_with fail
      go_ret
      exact ⟨_, rfl, .inr ⟨by decide, g5, rfl, hF⟩, below_step hB hb, fun g hg => by have := errV_inj hg; omega⟩
    · rw [if_neg h2] at hX
      have z2 : ¬ (q : Int) + 8 < (len : Int) := by omega
      have hlen : len = q + 8 := by omega
      obtain ⟨F, hF⟩ : ∃ F, fitsE Kn (conT ts) (key, b.take q) (b.drop q) = F := ⟨_, rfl⟩
      rw [hF] at hX
      have HF := Lib.hid hF
      have HX := Lib.hid hX
      have hrx : Rd vB W2 D (b.take q) := hrb.take _
      have HXL : Hid ((b.take q).length = q) := by unfold Hid; rw [List.length_take, HB.out]; omega
      have HGL : Hid ((b.drop q).length = 8) := by unfold Hid; rw [List.length_drop, HB.out]; omega
      have hcut1 := run_cut_to (P := Tryz.prog) 27 5 Tryz.underlying27 size_uint8 D len f q (by omega)
      obtain ⟨D2, hcut2, hdr⟩ := cut_from 27 5 Tryz.underlying27 size_uint8 D len f q (by omega) hf
      have hrg := hdr vB W2 b HB.out hrb
      rw [show len - q = 8 by omega] at hcut2
      have hf8 : 8 ≤ f - q := by omega
      have hqf : q ≤ f := by omega
      generalize b.take q = x at hrx HXL HF
      generalize b.drop q = g at hrg HGL HF
      have HLEN := Lib.hid hlen
      clear hdr hX hF h1 h2 hrb
      have k0 : (0 : Int) ≤ (q : Int) := by omega
      have k1 : (q : Int) ≤ (len : Int) := by omega
      clear hlen
      go_upto_region 6 with fail
      have hBase : Below W2.heap.size W2 W2.drew := (Below.refl _ _).drew
      have p0 : ∀ W, Below W2.heap.size W2 W → W.cell? ⟨w.heap.size, 0, none⟩ = some (.int .i64 Kn) := fun W hW => (hR.later hW).cell rfl
      have p1 : ∀ W, Below W2.heap.size W2 W → W.cell? ⟨w.heap.size, 1, none⟩ = some (.slice A p c) := fun W hW => (hR.later hW).cell rfl
      refine wp_region_plan (.step 0 false (.step 1 false (.step 2 false (.step 3 false (.step 4 false (.step 5 false (.step 6 false (.step 7 false (.step 8 true (.step 9 false (.step 10 false (.nil)))))))))))) (by kernel_rfl) (by kernel_rfl) (by rfl) (by kernel_rfl) ?_
      iterate 8 (refine plan_read rfl (by rfl) (v := ?_) ?_ ?_; rotate_left 1; (intro W hW; have hW0 := below_step hBase hW; (try dsimp only at hW); go_simp <;> with_reducible rfl); simp only [List.getElem_toArray, List.getElem_cons_zero, List.getElem_cons_succ, Act.put, List.setIfInBounds_toArray, List.set_cons_zero, List.set_cons_succ])
      (refine plan_make rfl (by rfl) (fun K hK => ?_); go_simp; (refine (fitsE_any Kn ts key x g p n q 8 A B D D2 c bd f (f - q) _ HP HL HN HXL HGL (ht.keep hBase) (hok.keep hBase) (hrk.keep hBase) (hrx.keep hBase) (hrg.keep hBase) hp hc hn hq (by omega) hnb hqf hf8 (Lib.hid (HK.out.keep hBase))).mono ?_; rintro e' w4 ⟨rfl, hbx⟩); refine hK.out _ _ hbx ?_; clear hK K; replace hBase := below_step hBase hbx)
      rw [HF.out]
      iterate 2 (refine plan_read rfl (by rfl) (v := ?_) ?_ ?_; rotate_left 1; (intro W hW; have hW0 := below_step hBase hW; (try dsimp only at hW); go_simp <;> with_reducible rfl); simp only [List.getElem_toArray, List.getElem_cons_zero, List.getElem_cons_succ, Act.put, List.setIfInBounds_toArray, List.set_cons_zero, List.set_cons_succ])
      refine plan_done ?_
      replace hB := below_step hB hBase
      clear p0 p1 hBase hcut1 hcut2 hrg hrk ht hok hR HK hrx
      cases F with
      | true =>
        have eX : X = 0 := HX.out.symm
        subst eX
        clear HX HF
        go_wp2_with fail
        go_ret
        exact ⟨_, rfl, .inl ⟨rfl, rfl⟩, hB, fun g hg => by cases hg⟩
      | false =>
        have eX : X = 5 := HX.out.symm
        subst eX
        clear HX HF
        go_wp2_with fail
        refine (faultA_any 5 w4).mono ?_
        rintro e' w5 ⟨g5, rfl, hF, hb, hgg⟩
        have hgB := hB.size
        go_wp2_with fail
        go_ret
        exact ⟨_, rfl, .inr ⟨by decide, g5, rfl, hF⟩, below_step hB hb, fun g hg => by have := errV_inj hg; omega⟩
end Go.Proofs.YtknjpmoimjhddaaGreatDoor
/-
  What the program's Seal of layer 16 answers (landed code). Condition: the package's table holds sixty-four words (for tags).
-/
namespace Go.Proofs.YtknjpmoimjhddaaGreatDoor
set_option maxRecDepth 100000
open Go.RowKit
set_option linter.unusedSimpArgs false
set_option linter.unusedVariables false

theorem bytesB_le {v : Nat} {es : List En} {gs : List Gn} (h : rightB es gs = true) : (bytesB v es gs).length ≤ 4500 := by
  obtain ⟨h1, h2, h3⟩ := right_b.1 h
  have h4 := okE_all h3
  have h5 := flatE_short es (fun x hx => (h4 x hx).2)
  have h6 := (right_parts.1 h2).2
  rw [bytesB_length, bytes_length]
  omega
set_option maxHeartbeats 2000000 in
theorem sealB_no (K : Int) (ts : List TD) (key : List UInt8) (p n : Nat) (A B : Option Addr) (c bd : Nat) (v ne ec ng gc : Nat) (es : List ED) (gs : List Gn) (eA gA : Option Addr) (w : World) (HP : Hid (ts.length = p)) (HL : Hid (lenT (conT ts))) (ht : RdT w A ts) (hok : okT w ts) (hp : p ≤ 1000000) (hc : p ≤ c) (HEN : Hid (es.length = ne)) (HGN : Hid (gs.length = ng)) (hre : RdE w eA es) (hoe : okD w es) (hrg : RdG w gA gs) (hv : v < 18446744073709551616) (hfe : fitE (conE es)) (HF : Hid (fitG gs)) (hne : ne ≤ 1000000000) (hng : ng ≤ 1000000000) (hml : ∀ x ∈ es, x.s.length ≤ 9223372036854775807) (hok2 : rightB (conE es) gs = false) :
    Calls Tryz.prog 22 #[.agg #[.int .i64 K, .slice A p c], .slice B n bd, aggB v eA ne ec gA ng gc] w (SealBad K ts w) := by
  obtain ⟨hR, hB0⟩ := box_rows w 48 (.int .i64 K) (.slice A p c)
  obtain ⟨hRa, hBa⟩ := box_three (w.alloc (.cells #[.int .i64 K, .slice A p c] 48)) 26 (.int .u64 (v : Int)) (.slice eA ne ec) (.slice gA ng gc)
  have hR1 := hR.later hBa
  have hB1 := below_step hB0 hBa
  have hz : (w.alloc (.cells #[.int .i64 K, .slice A p c] 48)).heap.size = w.heap.size + 1 := by simp
  rw [hz] at hRa
  have hR2 : Row (((w.alloc (.cells #[.int .i64 K, .slice A p c] 48)).alloc (.cells #[.int .u64 (v : Int), .slice eA ne ec, .slice gA ng gc] 26)).alloc (.cells #[.int .i64 0, .slice none 0 0] 48)) (w.heap.size + 2) 48 [.int .i64 0, .slice none 0 0] := Row.new_at _ _ (by simp) _ _ _ rfl
  replace hR1 := hR1.alloc (.cells #[.int .i64 0, .slice none 0 0] 48)
  replace hRa := hRa.alloc (.cells #[.int .i64 0, .slice none 0 0] 48)
  have hB := below_new hB1 (.cells #[.int .i64 0, .slice none 0 0] 48)
  replace ht := ht.keep hB
  replace hok := hok.keep hB
  have HOK := Lib.hid hok2
  have HML := Lib.hid hml
  clear hok2 hml
  replace hre := hre.keep hB
  replace hrg := hrg.keep hB
  clear hR hB0 hBa hB1 hz
  unfold aggB
  go_enter Tryz.func22, Tryz.ntmps22
  go_upto_region 1 with fail
  generalize ((w.alloc (.cells #[.int .i64 K, .slice A p c] 48)).alloc (.cells #[.int .u64 (v : Int), .slice eA ne ec, .slice gA ng gc] 26)).alloc (.cells #[.int .i64 0, .slice none 0 0] 48) = W2 at hR1 hR2 hRa hB ht hok hre hrg ⊢
  go_upto_region 2 with (first | (refine wpList_load_part rfl 26 (.tmp 5) rfl (w.heap.size + 1) 0 rfl _ _ hRa (cellsB v eA ne ec gA ng gc) (by rfl) _ Tryz.underlying26 rfl (by exact size_bundle) ?_) | (go_at_call 12; refine (bytesB_no v es gs ne ec ng gc eA gA _ HEN HGN hre hrg HF hne hng HML.out HOK.out).mono ?_; rintro e₁ w3 ⟨bA, bn, bc, rfl, HBN, hbc, hbr, hb⟩))
  replace hR1 := hR1.later hb
  replace hR2 := hR2.later hb
  replace ht := ht.keep hb
  replace hok := hok.keep hb
  replace hB := below_step hB hb
  clear hb hRa
  go_upto_region 3 with fail
  go_wp2_with (refine wpList_load_part rfl 48 (.tmp 3) rfl w.heap.size 0 rfl _ _ hR1 [.int .i64 K, .slice A p c] (by rfl) _ Tryz.underlying48 rfl (by exact size_engine) ?_)
  refine (ecopied_any K ts p A c _ HP HL ht hok hp hc).mono ?_
  rintro e' w4 ⟨us, A', c', rfl, HU, hpc, hrt, hus, HC, hb⟩
  replace hR2 := hR2.later hb
  replace hB := below_step hB hb
  clear hb hR1 ht hok
  go_wp2_with fail
  refine (faultA_any 1 w4).mono ?_
  rintro e' w5 ⟨g, rfl, hF, hb, hgg⟩
  have hlt := hR2.lt
  replace hR2 := hR2.later hb
  replace hB := below_step hB hb
  replace hrt := hrt.keep hb
  replace hus := hus.keep hb
  clear hb
  go_wp2_with (refine wpList_store_row rfl 48 (.tmp 6) (.tmp 19) rfl (w.heap.size + 2) rfl [.int .i64 K, .slice A' p c'] rfl _ _ hR2 (by exact size_engine) rfl (one_pair _ _ rfl rfl) ?_)
  refine bodyPost_ret (results_row_tmp2 (p := 6) (u := 7) (v := 8) (ty := 48) (by rfl) _ _ (w.heap.size + 2) 48 _ _ (by rfl) (by exact hR2.setRow _) Tryz.underlying48 (by rfl) (by exact size_engine)) (by rfl) ?_
  have hnb := two_no_byte 0 (.slice none 0 0) (slice_no_byte none 0 0)
  exact ⟨us, p, A', c', g, none, 0, rfl, HU, hpc, hrt.setRow_row hR2 _, hus.setRow_row hR2 hnb _, HC, Row.setRow_other hF (by omega) _, below_setRow hB (by omega) _⟩
set_option maxHeartbeats 4000000 in
theorem sealB_bad [Inhabited Tab] (K : Int) (ts : List TD) (key : List UInt8) (p n : Nat) (A B : Option Addr) (c bd : Nat) (v ne ec ng gc : Nat) (es : List ED) (gs : List Gn) (eA gA : Option Addr) (w : World) (HP : Hid (ts.length = p)) (HL : Hid (lenT (conT ts))) (ht : RdT w A ts) (hok : okT w ts) (hp : p ≤ 1000000) (hc : p ≤ c)
    (HEN : Hid (es.length = ne)) (HGN : Hid (gs.length = ng)) (hre : RdE w eA es) (hoe : okD w es) (hrg : RdG w gA gs) (hv : v < 18446744073709551616) (hfe : fitE (conE es)) (HF : Hid (fitG gs)) (hne : ne ≤ 1000000000) (hng : ng ≤ 1000000000) (hml : ∀ x ∈ es, x.s.length ≤ 9223372036854775807) (hok2 : rightB (conE es) gs = true) (HR : Hid (rightE K (conT ts) = false)) (HK : Hid (KTab w)) :
    Calls Tryz.prog 22 #[.agg #[.int .i64 K, .slice A p c], .slice B n bd, aggB v eA ne ec gA ng gc] w (SealBad K ts w) := by
  obtain ⟨hR, hB0⟩ := box_rows w 48 (.int .i64 K) (.slice A p c)
  obtain ⟨hRa, hBa⟩ := box_three (w.alloc (.cells #[.int .i64 K, .slice A p c] 48)) 26 (.int .u64 (v : Int)) (.slice eA ne ec) (.slice gA ng gc)
  have hR1 := hR.later hBa
  have hB1 := below_step hB0 hBa
  have hz : (w.alloc (.cells #[.int .i64 K, .slice A p c] 48)).heap.size = w.heap.size + 1 := by simp
  rw [hz] at hRa
  have hR2 : Row (((w.alloc (.cells #[.int .i64 K, .slice A p c] 48)).alloc (.cells #[.int .u64 (v : Int), .slice eA ne ec, .slice gA ng gc] 26)).alloc (.cells #[.int .i64 0, .slice none 0 0] 48)) (w.heap.size + 2) 48 [.int .i64 0, .slice none 0 0] := Row.new_at _ _ (by simp) _ _ _ rfl
  replace hR1 := hR1.alloc (.cells #[.int .i64 0, .slice none 0 0] 48)
  replace hRa := hRa.alloc (.cells #[.int .i64 0, .slice none 0 0] 48)
  have hB := below_new hB1 (.cells #[.int .i64 0, .slice none 0 0] 48)
  replace ht := ht.keep hB
  replace hok := hok.keep hB
  have HOK := Lib.hid hok2
  have HML := Lib.hid hml
  clear hok2 hml
  replace hre := hre.keep hB
  replace hoe := hoe.keep hB
  replace hrg := hrg.keep hB
  replace HK := Lib.hid (HK.out.keep hB)
  clear hR hB0 hBa hB1 hz
  unfold aggB
  go_enter Tryz.func22, Tryz.ntmps22
  go_upto_region 1 with fail
  generalize ((w.alloc (.cells #[.int .i64 K, .slice A p c] 48)).alloc (.cells #[.int .u64 (v : Int), .slice eA ne ec, .slice gA ng gc] 26)).alloc (.cells #[.int .i64 0, .slice none 0 0] 48) = W2 at hR1 hR2 hRa hB ht hok hre hoe hrg HK ⊢
  go_upto_region 2 with (first | (refine wpList_load_part rfl 26 (.tmp 5) rfl (w.heap.size + 1) 0 rfl _ _ hRa (cellsB v eA ne ec gA ng gc) (by rfl) _ Tryz.underlying26 rfl (by exact size_bundle) ?_) | (go_at_call 12; refine (bytesB_ok v es gs ne ec ng gc eA gA _ HEN HGN hre hoe hrg hv hfe HF HOK.out).mono ?_; rintro e₁ w3 ⟨bA, bn, bc, rfl, HBN, hbc, hbr, hb⟩))
  replace hR1 := hR1.later hb
  replace hR2 := hR2.later hb
  replace ht := ht.keep hb
  replace hok := hok.keep hb
  replace HK := Lib.hid (HK.out.keep hb)
  replace hB := below_step hB hb
  clear hb hRa
  go_upto_region 4 with fail
  go_wp2_with (refine wpList_load_part rfl 48 (.tmp 3) rfl w.heap.size 0 rfl _ _ hR1 [.int .i64 K, .slice A p c] (by rfl) _ Tryz.underlying48 rfl (by exact size_engine) ?_)
  refine (putE_bad K ts key (bytesB v (conE es) gs) p n bn A B bA c bd bc _ HP HL ht hok hp hc HR HK).mono ?_
  rintro e' w4 ⟨us, q, A', c', g, tA, tc, rfl, HU, hpc, hrt, hus, HC, hF, hb⟩
  have hlt := hR2.lt
  replace hR2 := hR2.later hb
  replace hB := below_step hB hb
  have hgne : g ≠ w.heap.size + 2 := hF.ne_engine hR2
  clear hb hR1 ht hok HK hbr
  have hnb := two_no_byte 0 (.slice none 0 0) (slice_no_byte none 0 0)
  go_wp2_with (refine wpList_store_row rfl 48 (.tmp 6) (.tmp 26) rfl (w.heap.size + 2) rfl [.int .i64 K, .slice A' q c'] rfl _ _ hR2 (by exact size_engine) rfl (one_pair _ _ rfl rfl) ?_)
  refine bodyPost_ret (results_row_tmp2 (p := 6) (u := 7) (v := 8) (ty := 48) (by rfl) _ _ (w.heap.size + 2) 48 _ _ (by rfl) (by exact hR2.setRow _) Tryz.underlying48 (by rfl) (by exact size_engine)) (by rfl) ?_
  exact ⟨us, q, A', c', g, tA, tc, rfl, HU, hpc, hrt.setRow_row hR2 _, hus.setRow_row hR2 hnb _, HC, Row.setRow_other hF hgne _, below_setRow hB (by omega) _⟩
set_option maxHeartbeats 4000000 in
theorem sealB_good [Inhabited Tab] (K : Int) (ts : List TD) (key : List UInt8) (p n : Nat) (A B : Option Addr) (c bd : Nat) (v ne ec ng gc : Nat) (es : List ED) (gs : List Gn) (eA gA : Option Addr) (w : World) (HP : Hid (ts.length = p)) (HL : Hid (lenT (conT ts))) (ht : RdT w A ts) (hok : okT w ts) (hp : p ≤ 1000000) (hc : p ≤ c)
    (HEN : Hid (es.length = ne)) (HGN : Hid (gs.length = ng)) (hre : RdE w eA es) (hoe : okD w es) (hrg : RdG w gA gs) (hv : v < 18446744073709551616) (hfe : fitE (conE es)) (HF : Hid (fitG gs)) (hne : ne ≤ 1000000000) (hng : ng ≤ 1000000000) (hml : ∀ x ∈ es, x.s.length ≤ 9223372036854775807) (hok2 : rightB (conE es) gs = true) (HN : Hid (key.length = n)) (hrk : Rd vB w B key) (hn : n ≤ 1000000) (hnb : n ≤ bd) (HR : Hid (rightE K (conT ts) = true)) (HK : Hid (KTab w)) :
    Calls Tryz.prog 22 #[.agg #[.int .i64 K, .slice A p c], .slice B n bd, aggB v eA ne ec gA ng gc] w (PutGood K ts key (bytesB v (conE es) gs) w) := by
  obtain ⟨hR, hB0⟩ := box_rows w 48 (.int .i64 K) (.slice A p c)
  obtain ⟨hRa, hBa⟩ := box_three (w.alloc (.cells #[.int .i64 K, .slice A p c] 48)) 26 (.int .u64 (v : Int)) (.slice eA ne ec) (.slice gA ng gc)
  have hR1 := hR.later hBa
  have hB1 := below_step hB0 hBa
  have hz : (w.alloc (.cells #[.int .i64 K, .slice A p c] 48)).heap.size = w.heap.size + 1 := by simp
  rw [hz] at hRa
  have hR2 : Row (((w.alloc (.cells #[.int .i64 K, .slice A p c] 48)).alloc (.cells #[.int .u64 (v : Int), .slice eA ne ec, .slice gA ng gc] 26)).alloc (.cells #[.int .i64 0, .slice none 0 0] 48)) (w.heap.size + 2) 48 [.int .i64 0, .slice none 0 0] := Row.new_at _ _ (by simp) _ _ _ rfl
  replace hR1 := hR1.alloc (.cells #[.int .i64 0, .slice none 0 0] 48)
  replace hRa := hRa.alloc (.cells #[.int .i64 0, .slice none 0 0] 48)
  have hB := below_new hB1 (.cells #[.int .i64 0, .slice none 0 0] 48)
  replace ht := ht.keep hB
  replace hok := hok.keep hB
  have HOK := Lib.hid hok2
  have HML := Lib.hid hml
  clear hok2 hml
  replace hre := hre.keep hB
  replace hoe := hoe.keep hB
  replace hrg := hrg.keep hB
  replace hrk := hrk.keep hB
  replace HK := Lib.hid (HK.out.keep hB)
  clear hR hB0 hBa hB1 hz
  unfold aggB
  go_enter Tryz.func22, Tryz.ntmps22
  go_upto_region 1 with fail
  generalize ((w.alloc (.cells #[.int .i64 K, .slice A p c] 48)).alloc (.cells #[.int .u64 (v : Int), .slice eA ne ec, .slice gA ng gc] 26)).alloc (.cells #[.int .i64 0, .slice none 0 0] 48) = W2 at hR1 hR2 hRa hB ht hok hre hoe hrg hrk HK ⊢
  go_upto_region 2 with (first | (refine wpList_load_part rfl 26 (.tmp 5) rfl (w.heap.size + 1) 0 rfl _ _ hRa (cellsB v eA ne ec gA ng gc) (by rfl) _ Tryz.underlying26 rfl (by exact size_bundle) ?_) | (go_at_call 12; refine (bytesB_ok v es gs ne ec ng gc eA gA _ HEN HGN hre hoe hrg hv hfe HF HOK.out).mono ?_; rintro e₁ w3 ⟨bA, bn, bc, rfl, HBN, hbc, hbr, hb⟩))
  replace hR1 := hR1.later hb
  replace hR2 := hR2.later hb
  replace ht := ht.keep hb
  replace hok := hok.keep hb
  replace HK := Lib.hid (HK.out.keep hb)
  replace hrk := hrk.keep hb
  replace hB := below_step hB hb
  clear hb hRa
  go_upto_region 4 with fail
  go_wp2_with (refine wpList_load_part rfl 48 (.tmp 3) rfl w.heap.size 0 rfl _ _ hR1 [.int .i64 K, .slice A p c] (by rfl) _ Tryz.underlying48 rfl (by exact size_engine) ?_)
  have hbl : bn ≤ 5000 := by have := HBN.out; have := bytesB_le HOK.out (v := v); omega
  refine (putE_good K ts key (bytesB v (conE es) gs) p n bn A B bA c bd bc _ HP HL ht hok hp hc HN hrk hn hnb HBN hbr (by omega) hbc HR HK).mono ?_
  rintro e' w4 ⟨us, q, A', c', n4, tA, tc, rfl, HU, hpc, hrt, hus, HC, HZ, hn4, hr8, hb⟩
  replace hR2 := hR2.later hb
  replace hB := below_step hB hb
  clear hb hR1 ht hok HK hbr hrk
  have hnb2 := two_no_byte 0 (.slice none 0 0) (slice_no_byte none 0 0)
  go_wp2_with (refine wpList_store_row rfl 48 (.tmp 6) (.tmp 26) rfl (w.heap.size + 2) rfl [.int .i64 K, .slice A' q c'] rfl _ _ hR2 (by exact size_engine) rfl (one_pair _ _ rfl rfl) ?_)
  refine bodyPost_ret (results_row_tmp2 (p := 6) (u := 7) (v := 8) (ty := 48) (by rfl) _ _ (w.heap.size + 2) 48 _ _ (by rfl) (by exact hR2.setRow _) Tryz.underlying48 (by rfl) (by exact size_engine)) (by rfl) ?_
  exact ⟨us, q, A', c', n4, tA, tc, rfl, HU, hpc, hrt.setRow_row hR2 _, hus.setRow_row hR2 hnb2 _, HC, HZ, hn4, hr8.setRow_row hR2 hnb2 _, below_setRow hB (by omega) _⟩

/-- What Seal hands back, in both ways. -/
def PutH [Inhabited Tab] (K : Int) (cs vs : List Tm) (key x : List UInt8) (ok : Bool) (X : List UInt8) (ev : Value) (W : World) : Prop :=
  (ev = .nilIface ∧ rightE K cs = true ∧ ok = true ∧ vs = termsE K cs (key, x) ∧ X = x ++ bytesE K cs (key, x)) ∨ ((∃ g, ev = errV g ∧ Flt W g 4 1) ∧ ¬ (rightE K cs = true ∧ ok = true) ∧ vs = cs ∧ X = [])
def PutA [Inhabited Tab] (K : Int) (ts : List TD) (key x : List UInt8) (ok : Bool) (w : World) (e₁ : Ending) (w' : World) : Prop :=
  ∃ (us : List TD) (p : Nat) (A : Option Addr) (c n : Nat) (tA : Option Addr) (tc : Nat) (X : List UInt8) (ev : Value), e₁ = .returned (.tuple #[.agg #[.int .i64 K, .slice A p c], .slice tA n tc, ev]) ∧ Hid (us.length = p) ∧ p ≤ c ∧ RdT w' A us ∧ okT w' us ∧ Hid (X.length = n) ∧ n ≤ tc ∧ Rd vB w' tA X ∧ Hid (PutH K (conT ts) (conT us) key x ok X ev w') ∧ Below w.heap.size w w'
theorem sealB_any [Inhabited Tab] (K : Int) (ts : List TD) (key : List UInt8) (p n : Nat) (A B : Option Addr) (c bd : Nat) (v ne ec ng gc : Nat) (es : List ED) (gs : List Gn) (eA gA : Option Addr) (w : World) (HP : Hid (ts.length = p)) (HL : Hid (lenT (conT ts))) (ht : RdT w A ts) (hok : okT w ts) (hp : p ≤ 1000000) (hc : p ≤ c)
    (HEN : Hid (es.length = ne)) (HGN : Hid (gs.length = ng)) (hre : RdE w eA es) (hoe : okD w es) (hrg : RdG w gA gs) (hv : v < 18446744073709551616) (hfe : fitE (conE es)) (HF : Hid (fitG gs)) (hne : ne ≤ 1000000000) (hng : ng ≤ 1000000000) (hml : ∀ x ∈ es, x.s.length ≤ 9223372036854775807) (HN : Hid (key.length = n)) (hrk : Rd vB w B key) (hn : n ≤ 1000000) (hnb : n ≤ bd) (HK : Hid (KTab w)) :
    Calls Tryz.prog 22 #[.agg #[.int .i64 K, .slice A p c], .slice B n bd, aggB v eA ne ec gA ng gc] w (PutA K ts key (bytesB v (conE es) gs) (rightB (conE es) gs) w) := by
  cases h : rightB (conE es) gs with
  | true =>
    cases hR : rightE K (conT ts) with
    | true =>
      refine (sealB_good K ts key p n A B c bd v ne ec ng gc es gs eA gA w HP HL ht hok hp hc HEN HGN hre hoe hrg hv hfe HF hne hng hml h HN hrk hn hnb (Lib.hid hR) HK).mono ?_
      rintro e₁ w' ⟨us, q, A', c', n', tA, tc, rfl, h1, h2, h3, h4, h5, h6, h7, h8, h9⟩
      exact ⟨us, q, A', c', n', tA, tc, _, _, rfl, h1, h2, h3, h4, h6, h7, h8, .inl ⟨rfl, hR, rfl, h5.out, rfl⟩, h9⟩
    | false =>
      refine (sealB_bad K ts key p n A B c bd v ne ec ng gc es gs eA gA w HP HL ht hok hp hc HEN HGN hre hoe hrg hv hfe HF hne hng hml h (Lib.hid hR) HK).mono ?_
      rintro e₁ w' ⟨us, q, A', c', g, tA, tc, rfl, h1, h2, h3, h4, h5, h6, h7⟩
      exact ⟨us, q, A', c', 0, tA, tc, [], _, rfl, h1, h2, h3, h4, Lib.hid rfl, Nat.zero_le _, Rd.nil, .inr ⟨⟨g, rfl, h6⟩, fun hh => absurd (hR.symm.trans hh.1) Bool.false_ne_true, h5.out, rfl⟩, h7⟩
  | false =>
    refine (sealB_no K ts key p n A B c bd v ne ec ng gc es gs eA gA w HP HL ht hok hp hc HEN HGN hre hoe hrg hv hfe HF hne hng hml h).mono ?_
    rintro e₁ w' ⟨us, q, A', c', g, tA, tc, rfl, h1, h2, h3, h4, h5, h6, h7⟩
    exact ⟨us, q, A', c', 0, tA, tc, [], _, rfl, h1, h2, h3, h4, Lib.hid rfl, Nat.zero_le _, Rd.nil, .inr ⟨⟨g, rfl, h6⟩, fun hh => Bool.false_ne_true hh.2, h5.out, rfl⟩, h7⟩
end Go.Proofs.YtknjpmoimjhddaaGreatDoor
/-
  What the program's Open of layer 16 answers (landed code). Condition: the package's table holds sixty-four words (for tags).
-/
namespace Go.Proofs.YtknjpmoimjhddaaGreatDoor
set_option maxRecDepth 100000
open Go.RowKit
set_option linter.unusedSimpArgs false
set_option linter.unusedVariables false

/-- Which bundle any bytes are opened to, and the code of the fault. -/
def openB [Inhabited Tab] (K : Int) (cs : List Tm) (key b : List UInt8) : ResB := if (readBun b).2.2.2.2 ≠ 0 then badB (readBun b).2.2.2.2 else if checkE K cs key b (readBun b).2.2.2.1 ≠ 0 then badB (checkE K cs key b (readBun b).2.2.2.1) else readBun b
def RetOb (w : World) (X : ResB) (e : Ending) (w' : World) : Prop :=
  ∃ eA es n ec gA m gc ev, e = .returned (.tuple #[aggB X.1 eA n ec gA m gc, ev]) ∧ Hid (conE es = X.2.1) ∧ Hid (es.length = n) ∧ Hid (X.2.2.1.length = m) ∧ n ≤ ec ∧ m ≤ gc ∧ RdE w' eA es ∧ okD w' es ∧ RdG w' gA X.2.2.1 ∧ Below w.heap.size w w' ∧ ErrV w' ev 4 X.2.2.2.2
theorem retob_bad {w w' : World} {X : ResB} {k : Int} {g : Nat} (hX : Hid (X = badB k)) (hk : k ≠ 0) (hF : Flt w' g 4 k) (hb : Below w.heap.size w w') : RetOb w X (.returned (.tuple #[.agg zeroB.toArray, errV g])) w' := by
  rw [hX.out]
  exact ⟨none, [], 0, 0, none, 0, 0, _, rfl, Lib.hid rfl, Lib.hid rfl, Lib.hid rfl, Nat.le_refl _, Nat.le_refl _, RdE.nil, okD.nil _, RdG.nil, hb, .inr ⟨hk, g, rfl, hF⟩⟩
/-- No list lies in a bundle's block that holds nothing. -/
theorem zero_noG {w : World} {g b o : Nat} {t t' : Nat} (hR : Row w g 26 zeroB) (h0 : w.cell? ⟨b, o, none⟩ = some (vNG t)) (h1 : w.cell? ⟨b, o + 1, none⟩ = some (vNG t')) : b ≠ g := fun e => by
  subst e
  match o, h0, h1 with
  | 0, _, h1 =>
    have : w.cell? ⟨b, 1, none⟩ = some (.slice none 0 0) := hR.cell rfl
    rw [show (0 + 1) = 1 from rfl, this] at h1
    simp [vNG] at h1
  | 1, h0, _ =>
    have : w.cell? ⟨b, 1, none⟩ = some (.slice none 0 0) := hR.cell rfl
    rw [this] at h0
    simp [vNG] at h0
  | 2, h0, _ =>
    have : w.cell? ⟨b, 2, none⟩ = some (.slice none 0 0) := hR.cell rfl
    rw [this] at h0
    simp [vNG] at h0
  | o + 3, h0, _ =>
    have h3 : w.cell? ⟨b, o + 3, none⟩ = none := (Row.cell? hR (o + 3)).trans rfl
    rw [h3] at h0
    cases h0
theorem RdE.setRow_bun {w : World} {A : Option Addr} {xs : List ED} {g : Nat} (h : RdE w A xs) (hR : Row w g 26 zeroB) (cs : Array Value) : RdE (w.setRow g cs) A xs := fun hn => by
  obtain ⟨b, o, rfl, hc⟩ := h hn
  have hp : 0 < xs.length := List.length_pos_iff.2 hn
  obtain ⟨a0, a1, _⟩ := hc 0 hp
  have hb : b ≠ g := zero_noG hR a0 a1
  refine ⟨b, o, rfl, fun i hi => ?_⟩
  obtain ⟨h0, h1, h2⟩ := hc i hi
  exact ⟨(cell_setRow_other w g cs ⟨b, o + i * 3, none⟩ hb).trans h0, (cell_setRow_other w g cs ⟨b, o + i * 3 + 1, none⟩ hb).trans h1, (cell_setRow_other w g cs ⟨b, o + i * 3 + 2, none⟩ hb).trans h2⟩
theorem RdG.setRow_bun {w : World} {A : Option Addr} {l : List Gn} {g : Nat} (h : RdG w A l) (hR : Row w g 26 zeroB) (cs : Array Value) : RdG (w.setRow g cs) A l := fun hn => by
  obtain ⟨b, o, rfl, hc⟩ := h hn
  have hp : 0 < l.length := List.length_pos_iff.2 hn
  obtain ⟨a0, a1⟩ := hc 0 hp
  have hb : b ≠ g := zero_noG hR a0 a1
  refine ⟨b, o, rfl, fun i hi => ?_⟩
  obtain ⟨h0, h1⟩ := hc i hi
  exact ⟨(cell_setRow_other w g cs ⟨b, o + i * 2, none⟩ hb).trans h0, (cell_setRow_other w g cs ⟨b, o + i * 2 + 1, none⟩ hb).trans h1⟩
theorem bun_no_byte : ∀ u ∈ zeroB, ∀ x, u ≠ vB x := fun u hu x e => by
  subst e
  simp [vB, zeroB] at hu
theorem okD.setRow_bun {w : World} {xs : List ED} {g : Nat} (h : okD w xs) (hR : Row w g 26 zeroB) (cs : Array Value) : okD (w.setRow g cs) xs := fun x hx => ⟨(h x hx).1, (h x hx).2.setRow_row hR bun_no_byte cs⟩
set_option maxHeartbeats 4000000 in
theorem openB_any [Inhabited Tab] (Kn : Int) (ts : List TD) (key b : List UInt8) (p n len : Nat) (A B D : Option Addr) (c bd f : Nat) (w : World) (HP : Hid (ts.length = p)) (HL : Hid (lenT (conT ts))) (ht : RdT w A ts) (hok : okT w ts) (hp : p ≤ 1000000) (hc : p ≤ c)
    (HN : Hid (key.length = n)) (hrk : Rd vB w B key) (hn : n ≤ 1000000) (hnb : n ≤ bd) (HB : Hid (b.length = len)) (hrb : Rd vB w D b) (hf : len ≤ f) (hl : len ≤ 1000000) (HK : Hid (KTab w)) :
    Calls Tryz.prog 27 #[.agg #[.int .i64 Kn, .slice A p c], .slice B n bd, .slice D len f] w (RetOb w (openB Kn (conT ts) key b)) := by
  obtain ⟨X, hX⟩ : ∃ X, openB Kn (conT ts) key b = X := ⟨_, rfl⟩
  rw [hX]
  unfold openB at hX
  have HX0 := Lib.hid hX.symm
  clear hX
  have HRD := Lib.hid (fun W (hW : Rd vB W D b) => readBunP_any b len f D W HB hW hl hf)
  have HLE : Hid ((readBun b).2.2.2.1 ≤ len) := by
    unfold Hid
    rw [← HB.out]
    by_cases h : (readBun b).2.2.2.2 = 0
    · obtain ⟨v, es, gs, m, k, hb⟩ : ∃ v es gs m k, readBun b = (v, es, gs, m, k) := ⟨_, _, _, _, _, rfl⟩
      rw [hb] at h
      dsimp only at h
      subst h
      rw [hb]
      exact (bun_good hb).2.1
    · obtain ⟨v, es, gs, m, k, hb⟩ : ∃ v es gs m k, readBun b = (v, es, gs, m, k) := ⟨_, _, _, _, _, rfl⟩
      rw [hb] at h
      rw [hb, (bun_bad hb h).2.2.2]
      exact Nat.zero_le _
  generalize readBun b = Y at HX0 HRD HLE
  obtain ⟨v, es', gs, m, kY⟩ := Y
  dsimp only at HX0 HLE
  obtain ⟨hR, hB0⟩ := box_rows w 48 (.int .i64 Kn) (.slice A p c)
  have hR1 := hR.alloc (.cells #[.int .u64 0, .slice none 0 0, .slice none 0 0] 26)
  have hR2 : Row ((w.alloc (.cells #[.int .i64 Kn, .slice A p c] 48)).alloc (.cells #[.int .u64 0, .slice none 0 0, .slice none 0 0] 26)) (w.heap.size + 1) 26 zeroB := Row.new_at _ _ (by simp) _ _ _ rfl
  have hB := below_new hB0 (.cells #[.int .u64 0, .slice none 0 0, .slice none 0 0] 26)
  replace ht := ht.keep hB
  replace hok := hok.keep hB
  replace hrk := hrk.keep hB
  replace hrb := hrb.keep hB
  replace HK := Lib.hid (HK.out.keep hB)
  clear hR hB0
  go_enter Tryz.func27, Tryz.ntmps27
  go_upto_region 1 with fail
  generalize (w.alloc (.cells #[.int .i64 Kn, .slice A p c] 48)).alloc (.cells #[.int .u64 0, .slice none 0 0, .slice none 0 0] 26) = W2 at hR1 hR2 hB ht hok hrk hrb HK ⊢
  go_wp2_with fail
  refine (HRD.out W2 hrb).mono ?_
  rintro e₁ w3 ⟨eA, es, ne, ec, gA, ng, gc, rfl, HCE, HEN, HGN, hec, hgc, hre, hoe, hrg, hb⟩
  dsimp only at HCE HGN hrg ⊢
  unfold aggB
  replace ht := ht.keep hb
  replace hok := hok.keep hb
  replace hrk := hrk.keep hb
  replace hrb := hrb.keep hb
  replace HK := Lib.hid (HK.out.keep hb)
  replace hR1 := hR1.later hb
  replace hR2 := hR2.later hb
  replace hB := below_step hB hb
  clear hb
  clear HRD
  have hlt2 := hR2.lt
  have hRn : Row (w3.alloc (.cells #[.int .u64 0, .slice none 0 0, .slice none 0 0] 26)) w3.heap.size 26 zeroB := Row.new w3 _ _ _ rfl
  go_upto_region 2 with (refine wpList_store_row rfl 26 (.tmp 8) (.tmp 15) rfl w3.heap.size rfl [.int .u64 (v : Int), .slice eA ne ec, .slice gA ng gc] rfl _ _ hRn (by exact size_bundle) rfl (one_three _ _ _ rfl rfl rfl) ?_)
  have hRx := hRn.setRow [.int .u64 (v : Int), .slice eA ne ec, .slice gA ng gc]
  have hbn : Below w3.heap.size w3 ((w3.alloc (.cells #[.int .u64 0, .slice none 0 0, .slice none 0 0] 26)).setRow w3.heap.size [.int .u64 (v : Int), .slice eA ne ec, .slice gA ng gc].toArray) := below_setRow (below_new (Below.refl _ _) _) (Nat.le_refl _) _
  generalize (w3.alloc (.cells #[.int .u64 0, .slice none 0 0, .slice none 0 0] 26)).setRow w3.heap.size [.int .u64 (v : Int), .slice eA ne ec, .slice gA ng gc].toArray = w4 at hRx hbn ⊢
  replace ht := ht.keep hbn
  replace hok := hok.keep hbn
  replace hrk := hrk.keep hbn
  replace hrb := hrb.keep hbn
  replace HK := Lib.hid (HK.out.keep hbn)
  replace hR1 := hR1.later hbn
  replace hR2 := hR2.later hbn
  replace hB := below_step hB hbn
  replace hre := hre.keep hbn
  replace hoe := hoe.keep hbn
  replace hrg := hrg.keep hbn
  clear hbn
  clear hRn
  generalize w3.heap.size = g4 at hRx hlt2 ⊢
  by_cases hk : kY = 0
  · subst hk
    have HX : Hid (X = if checkE Kn (conT ts) key b m ≠ 0 then badB (checkE Kn (conT ts) key b m) else (v, es', gs, m, 0)) := HX0.out
    have hm6 : m ≤ 1000000 := by have := HLE.out; omega
    clear HX0 HLE
    go_upto_region 4 with fail
    go_wp2_with (refine wpList_load_part rfl 48 (.tmp 3) rfl w.heap.size 0 rfl _ _ hR1 [.int .i64 Kn, .slice A p c] (by rfl) _ Tryz.underlying48 rfl (by exact size_engine) ?_)
    refine (checkE_any Kn ts key b p n len m A B D c bd f _ HP HL ht hok hp hc HN hrk hn hnb HB hrb hf hl hm6 HK).mono ?_
    rintro e₁ w5 ⟨ev, rfl, hE, hb, hgE⟩
    replace hR2 := hR2.later hb
    replace hRx := hRx.later hb
    replace hB := below_step hB hb
    replace hre := hre.keep hb
    replace hoe := hoe.keep hb
    replace hrg := hrg.keep hb
    clear hb
    clear hR1 ht hok hrk HK hrb
    generalize checkE Kn (conT ts) key b m = kC at HX hE
    go_upto_region 5 with fail
    rcases hE with ⟨hkc, rfl⟩ | ⟨hkc, g5, rfl, hF⟩
    · subst hkc
      have HXX : Hid (X = (v, es', gs, m, 0)) := HX.out
      have hre' := hre.setRow_bun hR2 [.int .u64 (v : Int), .slice eA ne ec, .slice gA ng gc].toArray
      have hoe' := hoe.setRow_bun hR2 [.int .u64 (v : Int), .slice eA ne ec, .slice gA ng gc].toArray
      have hrg' := hrg.setRow_bun hR2 [.int .u64 (v : Int), .slice eA ne ec, .slice gA ng gc].toArray
      clear HX hre hoe hrg
      go_wp2_with (first
        | (refine wpList_load_part rfl 26 (.tmp 8) rfl g4 0 rfl _ _ hRx [.int .u64 (v : Int), .slice eA ne ec, .slice gA ng gc] (by rfl) _ Tryz.underlying26 rfl (by exact size_bundle) ?_)
        | (refine wpList_store_row rfl 26 (.tmp 6) (.tmp 32) rfl (w.heap.size + 1) rfl [.int .u64 (v : Int), .slice eA ne ec, .slice gA ng gc] rfl _ _ hR2 (by exact size_bundle) rfl (one_three _ _ _ rfl rfl rfl) ?_))
      refine bodyPost_ret (results_row_tmp (p := 6) (u := 7) (ty := 26) (by rfl) _ _ (w.heap.size + 1) 26 _ _ (by rfl) (by exact hR2.setRow _) Tryz.underlying26 (by rfl) (by exact size_bundle)) (by rfl) ?_
      rw [HXX.out]
      exact ⟨eA, es, ne, ec, gA, ng, gc, .nilIface, rfl, HCE, HEN, HGN, hec, hgc, hre', hoe', hrg', below_setRow hB (by omega) _, .inl ⟨rfl, rfl⟩⟩
    · have HXX : Hid (X = badB kC) := by unfold Hid; rw [HX.out, if_pos hkc]
      have hgne : g5 ≠ w.heap.size + 1 := Row.ne_type hF hR2 (by decide)
      clear HX hre hoe hrg
      go_wp2_with (refine wpList_store_row rfl 26 (.tmp 6) (.tmp 30) rfl (w.heap.size + 1) rfl zeroB rfl _ _ hR2 (by exact size_bundle) rfl (one_three _ _ _ rfl rfl rfl) ?_)
      refine bodyPost_ret (results_row_tmp (p := 6) (u := 7) (ty := 26) (by rfl) _ _ (w.heap.size + 1) 26 _ _ (by rfl) (by exact hR2.setRow _) Tryz.underlying26 (by rfl) (by exact size_bundle)) (by rfl) ?_
      exact retob_bad HXX hkc (Row.setRow_other hF hgne _) (below_setRow hB (by omega) _)
  · have HXX : Hid (X = badB kY) := by unfold Hid; rw [HX0.out, if_pos hk]
    have hq1 : (kY == 0) = false := beq_eq_false_iff_ne.2 hk
    have hq2 : (kY != 0) = true := by rw [bne, hq1]; rfl
    clear hrk hrb ht hok hR1 HK HX0 HLE hre hoe hrg
    go_wp2_with fail
    refine (faultA_any kY w4).mono ?_
    rintro e' w5 ⟨g5, rfl, hF, hb, hgg⟩
    have hlt := hR2.lt
    replace hR2 := hR2.later hb
    replace hB := below_step hB hb
    clear hb
    go_wp2_with (refine wpList_store_row rfl 26 (.tmp 6) (.tmp 20) rfl (w.heap.size + 1) rfl zeroB rfl _ _ hR2 (by exact size_bundle) rfl (one_three _ _ _ rfl rfl rfl) ?_)
    refine bodyPost_ret (results_row_tmp (p := 6) (u := 7) (ty := 26) (by rfl) _ _ (w.heap.size + 1) 26 _ _ (by rfl) (by exact hR2.setRow _) Tryz.underlying26 (by rfl) (by exact size_bundle)) (by rfl) ?_
    exact retob_bad HXX hk (Row.setRow_other hF (by omega) _) (below_setRow hB (by omega) _)

/-! ### what is sealed, and opened -/
section
variable [Inhabited Tab] {K : Int} {cs : List Tm} {key b : List UInt8} {v : Nat} {es : List En} {gs : List Gn}
def sealBx [Inhabited Tab] (K : Int) (cs : List Tm) (key : List UInt8) (v : Nat) (es : List En) (gs : List Gn) : List UInt8 := bytesB v es gs ++ bytesE K cs (key, bytesB v es gs)
theorem sealBx_length : (sealBx K cs key v es gs).length = (bytesB v es gs).length + 8 := by
  unfold sealBx
  rw [List.length_append, bytesE_length]
theorem openB_made (h : rightB es gs = true) (hv : v < 18446744073709551616) (hf : fitE es) (hg : fitG gs) (hr : rightE K cs = true) : openB K (termsE K cs (key, bytesB v es gs)) key (sealBx K cs key v es gs) = (v, es, gs, (bytesB v es gs).length, 0) := by
  have h8 := bytesE_length K cs (key, bytesB v es gs)
  have hl : (sealBx K cs key v es gs).length = (bytesB v es gs).length + 8 := sealBx_length
  have hrd : readBun (sealBx K cs key v es gs) = (v, es, gs, (bytesB v es gs).length, 0) := bun_read _ h hv hf hg
  have hc : checkE K (termsE K cs (key, bytesB v es gs)) key (sealBx K cs key v es gs) (bytesB v es gs).length = 0 := by
    unfold checkE
    rw [hl, if_neg (by omega), if_neg (by omega)]
    have e1 : (sealBx K cs key v es gs).take (bytesB v es gs).length = bytesB v es gs := List.take_left' rfl
    have e2 : (sealBx K cs key v es gs).drop (bytesB v es gs).length = bytesE K cs (key, bytesB v es gs) := List.drop_left' rfl
    rw [e1, e2, fitsE_made (cs := cs) (key, bytesB v es gs) _ (termsE_right _ hr) (.inl rfl)]
    rw [if_pos (decide_eq_true rfl)]
  unfold openB
  rw [hrd]
  dsimp only
  rw [if_neg (not_not_intro rfl), hc, if_neg (not_not_intro rfl)]
theorem openB_unfit {ds : List Tm} {oth : List UInt8} (h : rightB es gs = true) (hv : v < 18446744073709551616) (hf : fitE es) (hg : fitG gs) (hm : (oth, bytesB v es gs) ∉ ds) : openB 2 ds oth (sealBx 2 cs key v es gs) = badB 5 := by
  have h8 := bytesE_length 2 cs (key, bytesB v es gs)
  have hl : (sealBx 2 cs key v es gs).length = (bytesB v es gs).length + 8 := sealBx_length
  have hrd : readBun (sealBx 2 cs key v es gs) = (v, es, gs, (bytesB v es gs).length, 0) := bun_read _ h hv hf hg
  have hc : checkE 2 ds oth (sealBx 2 cs key v es gs) (bytesB v es gs).length = 5 := by
    unfold checkE
    rw [hl, if_neg (by omega), if_neg (by omega)]
    have e1 : (sealBx 2 cs key v es gs).take (bytesB v es gs).length = bytesB v es gs := List.take_left' rfl
    rw [e1, if_neg]
    intro hF
    exact hm (fitsE_sym _ _ hF).1
  unfold openB
  rw [hrd]
  dsimp only
  rw [if_neg (not_not_intro rfl), hc, if_pos (by decide)]
/-- What is opened: the sealed bytes of that. -/
theorem openB_back {m : Nat} (h : openB K cs key b = (v, es, gs, m, 0)) : rightE K cs = true ∧ sealBx K cs key v es gs = b ∧ rightB es gs = true ∧ v < 18446744073709551616 ∧ fitE es ∧ fitG gs := by
  unfold openB at h
  split at h
  · simp [badB] at h
    rename_i hk
    exact absurd h.2.2.2.2 hk
  · rename_i hk
    split at h
    · rename_i hc
      simp [badB] at h
      exact absurd h.2.2.2.2 hc
    · rename_i hc
      rw [h] at hc
      dsimp only at hc
      have hc0 : checkE K cs key b m = 0 := Classical.byContradiction hc
      obtain ⟨r1, r2, r3, r4, r5, r6⟩ := bun_good h
      have hl := check_len hc0
      have hF : fitsE K cs (key, b.take m) (b.drop m) = true := by
        unfold checkE at hc0
        rw [if_neg (by omega), if_neg (by omega)] at hc0
        by_cases hF : fitsE K cs (key, b.take m) (b.drop m) = true
        · exact hF
        · rw [if_neg hF] at hc0
          exact absurd hc0 (by decide)
      rw [← r3] at hF
      refine ⟨?_, ?_, r1, r4, r5, r6⟩
      · cases hr : rightE K cs with
        | true => rfl
        | false => rw [fitsE_wrong _ _ hr] at hF; cases hF
      · have : bytesE K cs (key, bytesB v es gs) = b.drop m := by
          unfold fitsE at hF
          simp at hF
          exact hF.2.2
        unfold sealBx
        rw [this, r3, List.take_append_drop]
theorem openB_bad (h : (openB K cs key b).2.2.2.2 ≠ 0) : openB K cs key b = badB (openB K cs key b).2.2.2.2 := by
  unfold openB at h ⊢
  split at h
  · rename_i hk
    rw [if_pos hk]
    rfl
  · rename_i hk
    rw [if_neg hk]
    split at h
    · rename_i hc
      rw [if_pos hc]
      rfl
    · rename_i hc
      exact absurd h hk
end
end Go.Proofs.YtknjpmoimjhddaaGreatDoor
/-
  What the program's Find of layer 16 answers (landed code). No conditions but those typed.
-/
namespace Go.Proofs.YtknjpmoimjhddaaGreatDoor
set_option maxRecDepth 100000
open Go.RowKit
set_option linter.unusedSimpArgs false
set_option linter.unusedVariables false

theorem findIs_any (x : ED) (tk g1 : Nat) (w : World) (c1 : w.cell? ⟨g1, 0, none⟩ = some (.int .u64 (tk : Int))) :
    Calls Tryz.prog 53 #[.agg #[.int .u64 (x.t : Int), .int .u64 (x.e : Int), x.at2], .pointer (some ⟨g1, 0, none⟩)] w fun e w' => e = .returned (.bool (decide (x.t = tk))) ∧ Below w.heap.size w w' := by
  obtain ⟨t, en, A, c, s⟩ := x
  unfold ED.at2
  dsimp only
  obtain ⟨hR, hB⟩ := box_three w 35 (.int .u64 (t : Int)) (.int .u64 (en : Int)) (.slice A s.length c)
  have d1 := (hB.cell (p := ⟨g1, 0, none⟩) (World.block_lt_of_cell? w _ c1)).trans c1
  clear c1
  generalize s.length = q at *
  obtain ⟨P, hP⟩ : ∃ P, decide (t = tk) = P := ⟨_, rfl⟩
  rw [hP]
  go_enter Tryz.func53, Tryz.ntmps53
  go_upto_region 1 with fail
  generalize (w.alloc (.cells #[.int .u64 (t : Int), .int .u64 (en : Int), .slice A q c] 35)) = W at hR hB d1 ⊢
  have e0 : W.cell? ⟨w.heap.size, 0, none⟩ = some (.int .u64 (t : Int)) := hR.cell rfl
  by_cases h : t = tk
  · have HD : P = true := hP.symm.trans (decide_eq_true h)
    subst HD
    clear hP
    have h2 : ((t : Int) == (tk : Int)) = true := beq_iff_eq.2 (by omega)
    subst h
    go_wp2_with fail
    go_ret
    exact ⟨rfl, hB⟩
  · have HD : P = false := hP.symm.trans (decide_eq_false h)
    subst HD
    clear hP
    have h2 : ((t : Int) == (tk : Int)) = false := beq_eq_false_iff_ne.2 (by omega)
    have h3 : decide (t = tk) = false := decide_eq_false h
    go_wp2_with fail
    go_ret
    exact ⟨rfl, hB⟩
set_option maxHeartbeats 1000000 in
theorem indexEnt_any (es : List ED) (tk n c g1 : Nat) (A : Option Addr) (w : World) (HN : Hid (es.length = n)) (hre : RdE w A es) (hn : n ≤ 1000000000) (c1 : w.cell? ⟨g1, 0, none⟩ = some (.int .u64 (tk : Int))) :
    Calls Tryz.prog 52 #[.slice A n c, .func (.func 53) #[] #[.pointer (some ⟨g1, 0, none⟩)]] w fun e w' => (∃ i : Int, e = .returned (.int .i64 i) ∧ IsAt es tk i) ∧ Below w.heap.size w w' := by
  have hg1 := World.block_lt_of_cell? w _ c1
  have C1 : Hid (∀ W, Below w.heap.size w W → W.cell? ⟨g1, 0, none⟩ = some (.int .u64 (tk : Int))) := fun W hW => (hW.cell (p := ⟨g1, 0, none⟩) hg1).trans c1
  clear c1 hg1
  go_enter Tryz.func52, Tryz.ntmps52
  go_wp2_with fail
  go_loopw [8] (fun i wr => (∃ k : Nat, i = .int .i64 (k : Int) ∧ k ≤ n ∧ ∀ j (h : j < es.length), j < k → es[j].t ≠ tk) ∧ Below w.heap.size w wr) (fun i _ => n - (intOf i).toNat)
  case atStart => exact ⟨⟨0, rfl, by omega, fun j _ hj => by omega⟩, Below.refl _ _⟩
  case round =>
    obtain ⟨⟨k, rfl, hk, hs⟩, hB⟩ := hrel
    by_cases hlt : k < n
    · have hkl : k < es.length := by rw [HN.out]; exact hlt
      obtain ⟨b, o, rfl, hb, hrng, _, _, _⟩ := hre.one hkl
      have hrngW : wr.rangeAt b (o + k * 3) [.int .u64 (es[k].t : Int), .int .u64 (es[k].e : Int), es[k].at2] := fun j u hu => (hB.cell (p := ⟨b, o + k * 3 + j, none⟩) hb).trans (hrng j u hu)
      have HS : Hid (es[k].t ≠ tk → ∀ j (h : j < es.length), j < k + 1 → es[j].t ≠ tk) := fun h j hj hjk => by
        by_cases e : j = k
        · subst e; exact h
        · exact hs j hj (by omega)
      have HI : Hid (es[k].t = tk → IsAt es tk (k : Int)) := fun h => .inl ⟨k, hkl, rfl, h, hs⟩
      have d1 := C1.out wr hB
      generalize es[k] = x at hrngW HS HI
      have i0 : (0 : Int) ≤ (k : Int) := by omega
      have i1 : (k : Int) < (n : Int) := by omega
      have HB := Lib.hid hB
      clear hs hrng hB
      go_wp2_with (refine wpList_load_mid rfl 35 (.tmp 14) rfl b (o + k * 3) rfl [.int .u64 (x.t : Int), .int .u64 (x.e : Int), x.at2] _ hrngW Tryz.underlying35 rfl (by exact size_entry) ?_)
      refine (findIs_any x tk g1 _ d1).mono ?_
      rintro e' w1 ⟨rfl, hb1⟩
      have HB1 := Lib.hid (below_step HB.out hb1)
      by_cases hx : x.t = tk
      · have HI2 := Lib.hid (HI.out hx)
        rw [decide_eq_true hx]
        clear hx
        go_wp2_with fail
        go_ret
        exact ⟨⟨(k : Int), rfl, HI2.out⟩, HB1.out⟩
      · have HS2 := Lib.hid (HS.out hx)
        rw [decide_eq_false hx]
        clear hx
        go_wp2_with fail
        go_roundw
        case rel => exact ⟨⟨k + 1, by go_num, by omega, HS2.out⟩, HB1.out⟩
        case measure => simp [intOf]; omega
    · have HI : Hid (IsAt es tk (-1)) := .inr ⟨rfl, fun x hx => by
        obtain ⟨j, hj, rfl⟩ := List.getElem_of_mem hx
        exact hs j hj (by have := HN.out; omega)⟩
      have hkn : ¬ (k : Int) < (n : Int) := by omega
      clear hs
      go_wp2_with fail
      go_ret
      exact ⟨⟨-1, rfl, HI.out⟩, hB⟩

/-- What Find hands back: an entry that lies somewhere, and a code. -/
def RetFind (w : World) (es : List ED) (tk : Nat) (e : Ending) (w' : World) : Prop :=
  ∃ t en A q c code s, e = .returned (.tuple #[aggN t en A q c, .int .i64 code]) ∧ Hid ((s : List UInt8).length = q) ∧ q ≤ c ∧ Rd vB w' A s ∧ Below w.heap.size w w' ∧ Hid ((∃ k, ∃ h : k < es.length, code = 0 ∧ IsAt es tk (k : Int) ∧ (t, en, s) = es[k].con) ∨ (code = 7 ∧ IsAt es tk (-1) ∧ (t, en, s) = (0, 0, [])))
theorem isAt_cases {es : List ED} {tk : Nat} {i : Int} (h : IsAt es tk i) : (∃ k : Nat, i = (k : Int) ∧ k < es.length) ∨ i = -1 := by
  rcases h with ⟨k, hk, rfl, _⟩ | ⟨rfl, _⟩
  · exact .inl ⟨k, rfl, hk⟩
  · exact .inr rfl
set_option maxHeartbeats 2000000 in
theorem findB_any (v : Nat) (es : List ED) (n ec m gc tk : Nat) (eA gA : Option Addr) (w : World) (HN : Hid (es.length = n)) (hre : RdE w eA es) (hok : okD w es) (hn : n ≤ 1000000000) (hml : ∀ x ∈ es, x.s.length ≤ 70368744177664) :
    Calls Tryz.prog 14 #[aggB v eA n ec gA m gc, .int .u64 (tk : Int)] w (RetFind w es tk) := by
  obtain ⟨hR, hB0⟩ := box_three w 26 (.int .u64 (v : Int)) (.slice eA n ec) (.slice gA m gc)
  have HML := Lib.hid hml
  have hRt : Row ((w.alloc (.cells #[.int .u64 (v : Int), .slice eA n ec, .slice gA m gc] 26)).alloc (.cells #[.int .u64 (tk : Int)] 22)) (w.heap.size + 1) 22 [.int .u64 (tk : Int)] := Row.new_at _ _ (by simp) _ _ _ rfl
  have hB1 := below_new hB0 (.cells #[.int .u64 (tk : Int)] 22)
  replace hR := hR.alloc (.cells #[.int .u64 (tk : Int)] 22)
  have hRx : Row (((w.alloc (.cells #[.int .u64 (v : Int), .slice eA n ec, .slice gA m gc] 26)).alloc (.cells #[.int .u64 (tk : Int)] 22)).alloc (.cells #[.int .u64 0, .int .u64 0, .slice none 0 0] 35)) (w.heap.size + 2) 35 [.int .u64 0, .int .u64 0, .slice none 0 0] := Row.new_at _ _ (by simp) _ _ _ rfl
  have hB := below_new hB1 (.cells #[.int .u64 0, .int .u64 0, .slice none 0 0] 35)
  replace hR := hR.alloc (.cells #[.int .u64 0, .int .u64 0, .slice none 0 0] 35)
  replace hRt := hRt.alloc (.cells #[.int .u64 0, .int .u64 0, .slice none 0 0] 35)
  clear hB0 hB1 hml
  unfold aggB
  go_enter Tryz.func14, Tryz.ntmps14
  go_upto_region 1 with fail
  generalize ((w.alloc (.cells #[.int .u64 (v : Int), .slice eA n ec, .slice gA m gc] 26)).alloc (.cells #[.int .u64 (tk : Int)] 22)).alloc (.cells #[.int .u64 0, .int .u64 0, .slice none 0 0] 35) = w1 at hR hRt hRx hB ⊢
  replace hre := hre.keep hB
  replace hok := hok.keep hB
  have c1 : w1.cell? ⟨w.heap.size, 1, none⟩ = some (.slice eA n ec) := hR.cell rfl
  go_wp2_with fail
  refine (indexEnt_any es tk n ec (w.heap.size + 1) eA w1 HN hre hn (hRt.cell rfl)).mono ?_
  rintro e w2 ⟨⟨i, rfl, hi⟩, hb⟩
  replace hR := hR.later hb
  replace hRx := hRx.later hb
  replace hre := hre.keep hb
  replace hok := hok.keep hb
  replace hB := below_step hB hb
  clear hb
  clear c1 hRt
  have HI := Lib.hid hi
  rcases isAt_cases hi with ⟨k, rfl, hkl⟩ | rfl
  · have hk0 : ¬ (k : Int) < 0 := by omega
    have hkn : k < n := by rw [← HN.out]; exact hkl
    clear hi
    obtain ⟨b, o, rfl, hb, hrng, _, _, _⟩ := hre.one hkl
    have hxk := hok _ (List.getElem_mem hkl)
    have hxl := HML.out _ (List.getElem_mem hkl)
    have HKL : Hid (∃ k', ∃ h : k' < es.length, (k : Int) = (k' : Int) ∧ es[k].con = es[k'].con) := ⟨k, hkl, rfl, rfl⟩
    have HCON : Hid (es[k].con = (es[k].t, es[k].e, es[k].s)) := rfl
    have hrng2 : w2.rangeAt b (o + k * 3) [.int .u64 (es[k].t : Int), .int .u64 (es[k].e : Int), .slice es[k].A es[k].s.length es[k].c] := hrng
    have HFIN : Hid (∃ k', ∃ h : k' < es.length, IsAt es tk (k' : Int) ∧ (es[k].t, es[k].e, es[k].s) = es[k'].con) := ⟨k, hkl, HI.out, rfl⟩
    obtain ⟨hxc, hxr⟩ := hxk
    generalize es[k].t = tt at *
    generalize es[k].e = te at *
    generalize es[k].A = tA at *
    generalize es[k].c = tc at *
    generalize es[k].s = ts at *
    obtain ⟨q, hq⟩ : ∃ q, ts.length = q := ⟨_, rfl⟩
    have HQ := Lib.hid hq
    rw [hq] at hrng2 hxl hxc
    clear hrng HKL HCON hq HI
    have i0 : (0 : Int) ≤ (k : Int) := by omega
    have i1 : (k : Int) < (n : Int) := by omega
    have c1 : w2.cell? ⟨w.heap.size, 1, none⟩ = some (.slice (some ⟨b, o, none⟩) n ec) := hR.cell rfl
    have hRn : Row (w2.alloc (.cells #[.int .u64 0, .int .u64 0, .slice none 0 0] 35)) w2.heap.size 35 [.int .u64 0, .int .u64 0, .slice none 0 0] := Row.new w2 _ _ _ rfl
    have hRe := hRn.setRow [.int .u64 (tt : Int), .int .u64 (te : Int), .slice tA q tc]
    have hb6 : Below w2.heap.size w2 ((w2.alloc (.cells #[.int .u64 0, .int .u64 0, .slice none 0 0] 35)).setRow w2.heap.size [.int .u64 (tt : Int), .int .u64 (te : Int), .slice tA q tc].toArray) := below_setRow (below_new (Below.refl _ _) _) (Nat.le_refl _) _
    have hltx := hRx.lt
    go_upto_region 5 with (first
      | (refine wpList_load_mid rfl 35 (.tmp 18) rfl b (o + k * 3) rfl [.int .u64 (tt : Int), .int .u64 (te : Int), .slice tA q tc] _ hrng2 Tryz.underlying35 rfl (by exact size_entry) ?_)
      | (refine wpList_store_row rfl 35 (.tmp 7) (.tmp 19) rfl w2.heap.size rfl [.int .u64 (tt : Int), .int .u64 (te : Int), .slice tA q tc] rfl _ _ hRn (by exact size_entry) rfl (one_three _ _ _ rfl rfl rfl) ?_))
    generalize (w2.alloc (.cells #[.int .u64 0, .int .u64 0, .slice none 0 0] 35)).setRow w2.heap.size [.int .u64 (tt : Int), .int .u64 (te : Int), .slice tA q tc].toArray = w3 at hRe hb6 ⊢
    replace hRx := hRx.later hb6
    replace hxr := hxr.keep hb6
    replace hB := below_step hB hb6
    clear hb6
    clear hRn c1 hrng2 hre hok hR
    generalize w2.heap.size = ge at hRe hltx ⊢
    have hge : w.heap.size + 2 < ge := hltx
    have c2 : w3.cell? ⟨ge, 2, none⟩ = some (.slice tA q tc) := hRe.cell rfl
    go_wp2_with fail
    refine (cloneE_any q ts tA tc w3 HQ hxr hxl).mono ?_
    rintro e w4 ⟨A4, c4, rfl, hc4, hr4, hA4, hb⟩
    have hlte := hRe.lt
    replace hRe := hRe.later hb
    replace hRx := hRx.later hb
    replace hB := below_step hB hb
    clear hb c2 hxr
    have f2 := hRe.frozen 2
    have c2 : w4.cell? ⟨ge, 2, none⟩ = some (.slice tA q tc) := hRe.cell rfl
    have HA4 : Hid (∀ a, A4 = some a → ge < a.block) := fun a ha => by have := hA4 a ha; omega
    have hRe5 : Row (w4.setCell ⟨ge, 2, none⟩ (.slice A4 q c4)) ge 35 [.int .u64 (tt : Int), .int .u64 (te : Int), .slice A4 q c4] := hRe.setCell 2 (.slice A4 q c4)
    have hRx5 := hRx.setCell_other (p := ⟨ge, 2, none⟩) (show w.heap.size + 2 ≠ ge by omega) (.slice A4 q c4)
    have hr5 : Rd vB (w4.setCell ⟨ge, 2, none⟩ (.slice A4 q c4)) A4 ts := hr4.only ((Only.refl ge w4).setCell 2 (.slice A4 q c4)) (fun _ a ha => by have := HA4.out a ha; omega)
    have hB5 := hB.setCell (p := ⟨ge, 2, none⟩) (show w.heap.size ≤ ge by omega) (.slice A4 q c4)
    clear hRe hRx hr4 hB hA4
    go_upto_region 6 with fail
    generalize w4.setCell ⟨ge, 2, none⟩ (.slice A4 q c4) = w5 at hRe5 hRx5 hr5 hB5 ⊢
    clear c2 f2
    go_wp2_with (first
      | (refine wpList_load_part rfl 35 (.tmp 7) rfl ge 0 rfl _ _ hRe5 [.int .u64 (tt : Int), .int .u64 (te : Int), .slice A4 q c4] (by rfl) _ Tryz.underlying35 rfl (by exact size_entry) ?_)
      | (refine wpList_store_row rfl 35 (.tmp 4) (.tmp 24) rfl (w.heap.size + 2) rfl [.int .u64 (tt : Int), .int .u64 (te : Int), .slice A4 q c4] rfl _ _ hRx5 (by exact size_entry) rfl (one_three _ _ _ rfl rfl rfl) ?_))
    refine bodyPost_ret (results_row_tmp (p := 4) (u := 5) (ty := 35) (by rfl) _ _ (w.heap.size + 2) 35 _ _ (by rfl) (by exact hRx5.setRow _) Tryz.underlying35 (by rfl) (by exact size_entry)) (by rfl) ?_
    obtain ⟨k', hk', h1, h2⟩ := HFIN.out
    exact ⟨tt, te, A4, q, c4, 0, ts, rfl, HQ, hc4, hr5.setRow _ (fun a ha => by have := HA4.out a ha; omega), below_setRow hB5 (by omega) _, Lib.hid (.inl ⟨k', hk', rfl, h1, h2⟩)⟩
  · clear hi
    go_wp2_with (refine wpList_store_row rfl 35 (.tmp 4) (.tmp 14) rfl (w.heap.size + 2) rfl [.int .u64 0, .int .u64 0, .slice none 0 0] rfl _ _ hRx (by exact size_entry) rfl (one_three _ _ _ rfl rfl rfl) ?_)
    refine bodyPost_ret (results_row_tmp (p := 4) (u := 5) (ty := 35) (by rfl) _ _ (w.heap.size + 2) 35 _ _ (by rfl) (by exact hRx.setRow _) Tryz.underlying35 (by rfl) (by exact size_entry)) (by rfl) ?_
    exact ⟨0, 0, none, 0, 0, 7, [], rfl, Lib.hid rfl, Nat.le_refl _, Rd.nil, below_setRow hB (by omega) _, Lib.hid (.inr ⟨rfl, HI.out, rfl⟩)⟩
end Go.Proofs.YtknjpmoimjhddaaGreatDoor
/-
  What the reference's Same of layer 16 answers. No conditions but those typed.
-/
namespace Go.Proofs.YtknjpmoimjhddaaGreatDoor
set_option maxRecDepth 100000
open Go.RowKit
set_option linter.unusedSimpArgs false
set_option linter.unusedVariables false

set_option maxHeartbeats 2000000 in
theorem sameB_any (v v' : Nat) (es es' : List ED) (gs gs' : List Gn) (n ec m gc n' ec' m' gc' : Nat) (eA gA eA' gA' : Option Addr) (w : World) (HN : Hid (es.length = n)) (HM : Hid (gs.length = m)) (HN' : Hid (es'.length = n')) (HM' : Hid (gs'.length = m')) (hre : RdE w eA es) (hoe : okD w es) (hrg : RdG w gA gs) (hre' : RdE w eA' es') (hoe' : okD w es') (hrg' : RdG w gA' gs') (hn : n ≤ 1000000000) (hm : m ≤ 1000000000) :
    Calls Tryz.prog 20 #[aggB v eA n ec gA m gc, aggB v' eA' n' ec' gA' m' gc'] w fun e₁ w' => e₁ = .returned (.bool (decide ((v, conE es, gs) = (v', conE es', gs')))) ∧ Below w.heap.size w w' := by
  obtain ⟨P, hP⟩ : ∃ P, decide ((v, conE es, gs) = (v', conE es', gs')) = P := ⟨_, rfl⟩
  rw [hP]
  have HP := Lib.hid hP
  clear hP
  have hR0 : Row (w.alloc (.cells #[.int .u64 (v : Int), .slice eA n ec, .slice gA m gc] 26)) w.heap.size 26 [.int .u64 (v : Int), .slice eA n ec, .slice gA m gc] := Row.new w _ _ _ rfl
  have hR1 : Row ((w.alloc (.cells #[.int .u64 (v : Int), .slice eA n ec, .slice gA m gc] 26)).alloc (.cells #[.int .u64 (v' : Int), .slice eA' n' ec', .slice gA' m' gc'] 26)) (w.heap.size + 1) 26 [.int .u64 (v' : Int), .slice eA' n' ec', .slice gA' m' gc'] := Row.new_at _ _ (by simp) _ _ _ rfl
  replace hR0 := hR0.alloc (.cells #[.int .u64 (v' : Int), .slice eA' n' ec', .slice gA' m' gc'] 26)
  have hB : Below w.heap.size w ((w.alloc (.cells #[.int .u64 (v : Int), .slice eA n ec, .slice gA m gc] 26)).alloc (.cells #[.int .u64 (v' : Int), .slice eA' n' ec', .slice gA' m' gc'] 26)) := below_new (below_new (Below.refl _ _) _) _
  unfold aggB
  go_enter Tryz.func20, Tryz.ntmps20
  go_upto_region 1 with fail
  generalize (w.alloc (.cells #[.int .u64 (v : Int), .slice eA n ec, .slice gA m gc] 26)).alloc (.cells #[.int .u64 (v' : Int), .slice eA' n' ec', .slice gA' m' gc'] 26) = w3 at hR0 hR1 hB ⊢
  have c0 : w3.cell? ⟨w.heap.size, 0, none⟩ = some (.int .u64 (v : Int)) := hR0.cell rfl
  have c1 : w3.cell? ⟨w.heap.size, 1, none⟩ = some (.slice eA n ec) := hR0.cell rfl
  have c2 : w3.cell? ⟨w.heap.size, 2, none⟩ = some (.slice gA m gc) := hR0.cell rfl
  have d0 : w3.cell? ⟨w.heap.size + 1, 0, none⟩ = some (.int .u64 (v' : Int)) := hR1.cell rfl
  have d1 : w3.cell? ⟨w.heap.size + 1, 1, none⟩ = some (.slice eA' n' ec') := hR1.cell rfl
  have d2 : w3.cell? ⟨w.heap.size + 1, 2, none⟩ = some (.slice gA' m' gc') := hR1.cell rfl
  have HB := Lib.hid hB
  clear hB
  by_cases h1 : v = v'
  · subst h1
    by_cases h2 : n = n'
    · subst h2
      go_wp2_with fail
      refine (same15_any gs gs' m m' gc gc' gA gA' _ HM HM' (hrg.keep HB.out) (hrg'.keep HB.out) hm).mono ?_
      rintro e₁ w4 ⟨rfl, hb4⟩
      have HB4 := Lib.hid (below_step HB.out hb4)
      have hR04 := hR0.later hb4
      have hR14 := hR1.later hb4
      have hre4 := hre.keep HB4.out
      have hre4' := hre'.keep HB4.out
      have hoe4 := hoe.keep HB4.out
      have hoe4' := hoe'.keep HB4.out
      clear c0 c1 c2 d0 d1 d2 hb4
      by_cases h3 : gs = gs'
      · rw [decide_eq_true h3]
        have HPE : Hid (P = decide (conE es = conE es')) := by
          unfold Hid
          rw [← HP.out, h3]
          simp
        go_wp2_with fail
        go_loopw [5] (fun i wr => (∃ j : Nat, i = .int .i64 (j : Int) ∧ j ≤ n ∧ (conE es).take j = (conE es').take j) ∧ Below w4.heap.size w4 wr) (fun i _ => n - (intOf i).toNat)
        case atStart => exact ⟨⟨0, rfl, by omega, by simp⟩, Below.refl _ _⟩
        case round =>
          obtain ⟨⟨j, rfl, hj, htk⟩, hB⟩ := hrel
          have HB5 := Lib.hid (below_step HB4.out hB)
          have hR05 := hR04.later hB
          have hR15 := hR14.later hB
          by_cases hlt : j < n
          · have hjl : j < es.length := by rw [HN.out]; exact hlt
            have hjm : j < es'.length := by rw [HN'.out]; exact hlt
            obtain ⟨b, o, rfl, hb, hrng, p0, p1, p2⟩ := hre4.one hjl
            obtain ⟨b2, o2, rfl, hb2, hrng2, q0, q1, q2⟩ := hre4'.one hjm
            replace p0 := (hB.cell (p := ⟨b, o + j * 3, none⟩) hb).trans p0
            replace p1 := (hB.cell (p := ⟨b, o + j * 3 + 1, none⟩) hb).trans p1
            replace p2 := (hB.cell (p := ⟨b, o + j * 3 + 2, none⟩) hb).trans p2
            replace q0 := (hB.cell (p := ⟨b2, o2 + j * 3, none⟩) hb2).trans q0
            replace q1 := (hB.cell (p := ⟨b2, o2 + j * 3 + 1, none⟩) hb2).trans q1
            replace q2 := (hB.cell (p := ⟨b2, o2 + j * 3 + 2, none⟩) hb2).trans q2
            have hx := (hoe4 _ (List.getElem_mem hjl)).keep hB
            have hy := (hoe4' _ (List.getElem_mem hjm)).keep hB
            have HT : Hid (es[j].con = es'[j].con → (conE es).take (j + 1) = (conE es').take (j + 1)) := fun h => by
              rw [List.take_succ_eq_append_getElem (by rw [conE_length]; exact hjl), List.take_succ_eq_append_getElem (by rw [conE_length]; exact hjm), htk, conE_get es j hjl, conE_get es' j hjm, h]
            have HI : Hid (¬ es[j].con = es'[j].con → decide (conE es = conE es') = false) := fun h => by
              rw [decide_eq_false_iff_not]
              intro e
              have h1 := conE_get es j hjl
              have h2 := conE_get es' j hjm
              simp only [e] at h1
              exact h (h1.symm.trans h2)
            generalize es[j] = x at p0 p1 p2 hx HT HI
            generalize es'[j] = y at q0 q1 q2 hy HT HI
            obtain ⟨xt, xe, xA, xc, xs⟩ := x
            obtain ⟨yt, ye, yA, yc, ys⟩ := y
            obtain ⟨_, hxr⟩ := hx
            obtain ⟨_, hyr⟩ := hy
            unfold ED.con at HT HI
            unfold ED.at2 at p2 q2
            unfold vNG at p0 p1 q0 q1
            dsimp only at p0 p1 p2 q0 q1 q2 hxr hyr HT HI
            have e0 : ∀ W, Below wr.heap.size wr W → W.cell? ⟨b, o + j * 3, none⟩ = some (.int .u64 (xt : Int)) := fun W hW => (hW.cell (p := ⟨b, o + j * 3, none⟩) (World.block_lt_of_cell? wr _ p0)).trans p0
            have e1 : ∀ W, Below wr.heap.size wr W → W.cell? ⟨b, o + j * 3 + 1, none⟩ = some (.int .u64 (xe : Int)) := fun W hW => (hW.cell (p := ⟨b, o + j * 3 + 1, none⟩) (World.block_lt_of_cell? wr _ p1)).trans p1
            have e2 : ∀ W, Below wr.heap.size wr W → W.cell? ⟨b, o + j * 3 + 2, none⟩ = some (.slice xA xs.length xc) := fun W hW => (hW.cell (p := ⟨b, o + j * 3 + 2, none⟩) (World.block_lt_of_cell? wr _ p2)).trans p2
            have f0 : ∀ W, Below wr.heap.size wr W → W.cell? ⟨b2, o2 + j * 3, none⟩ = some (.int .u64 (yt : Int)) := fun W hW => (hW.cell (p := ⟨b2, o2 + j * 3, none⟩) (World.block_lt_of_cell? wr _ q0)).trans q0
            have f1 : ∀ W, Below wr.heap.size wr W → W.cell? ⟨b2, o2 + j * 3 + 1, none⟩ = some (.int .u64 (ye : Int)) := fun W hW => (hW.cell (p := ⟨b2, o2 + j * 3 + 1, none⟩) (World.block_lt_of_cell? wr _ q1)).trans q1
            have f2 : ∀ W, Below wr.heap.size wr W → W.cell? ⟨b2, o2 + j * 3 + 2, none⟩ = some (.slice yA ys.length yc) := fun W hW => (hW.cell (p := ⟨b2, o2 + j * 3 + 2, none⟩) (World.block_lt_of_cell? wr _ q2)).trans q2
            have c1w : wr.cell? ⟨w.heap.size, 1, none⟩ = some (.slice (some ⟨b, o, none⟩) n ec) := hR05.cell rfl
            have c1 : ∀ W, Below wr.heap.size wr W → W.cell? ⟨w.heap.size, 1, none⟩ = some (.slice (some ⟨b, o, none⟩) n ec) := fun W hW => (hR05.later hW).cell rfl
            have d1 : ∀ W, Below wr.heap.size wr W → W.cell? ⟨w.heap.size + 1, 1, none⟩ = some (.slice (some ⟨b2, o2, none⟩) n ec') := fun W hW => (hR15.later hW).cell rfl
            have i2 : (0 : Int) ≤ (j : Int) := by omega
            have i3 : (j : Int) < (n : Int) := by omega
            have HXR := Lib.hid hxr
            have HYR := Lib.hid hyr
            have HBr := Lib.hid hB
            generalize hxl : xs.length = xl at e2
            generalize hyl : ys.length = yl at f2
            have HXL := Lib.hid hxl
            have HYL := Lib.hid hyl
            clear hB htk p0 p1 p2 q0 q1 q2 hrng hrng2 hxr hyr hxl hyl hR04 hR14 hR05 hR15 hre4 hre4' hoe4 hoe4'
            go_wp2_with fail
            have hBase := (Below.refl wr.heap.size wr).drew
            refine wp_region_plan (.step 0 false (.step 1 false (.step 2 false (.step 3 false (.step 4 false (.step 5 false (.step 6 false (.step 7 false (.step 8 false (.step 9 false (.step 10 true (.step 11 false (.nil))))))))))))) (by kernel_rfl) (by kernel_rfl) (by rfl) (by kernel_rfl) ?_
            iterate 10 (refine plan_read rfl (by rfl) (v := ?_) ?_ ?_; rotate_left 1; (intro W hW; have hW0 := below_step hBase hW; (try dsimp only at hW); go_simp <;> with_reducible rfl); simp only [List.getElem_toArray, List.getElem_cons_zero, List.getElem_cons_succ, Act.put, List.setIfInBounds_toArray, List.set_cons_zero, List.set_cons_succ])
            (refine plan_make rfl (by rfl) (fun K hK => ?_); go_simp; (refine (refentryB_any xt xe yt ye xs ys xl xc yl yc xA yA _ HXL HYL (HXR.out.keep hBase) (HYR.out.keep hBase)).mono ?_; rintro e₁ w5 ⟨rfl, hbx⟩); refine hK.out _ _ hbx ?_; clear hK K; replace hBase := below_step hBase hbx)
            have HB6 := Lib.hid (below_step HBr.out hBase)
            have HB7 := Lib.hid (below_step HB4.out HB6.out)
            by_cases hxy : (xt, xe, xs) = (yt, ye, ys)
            · rw [decide_eq_true hxy]
              have HT2 := Lib.hid (HT.out hxy)
              clear hxy
              iterate 1 (refine plan_read rfl (by rfl) (v := ?_) ?_ ?_; rotate_left 1; (intro W hW; have hW0 := below_step hBase hW; (try dsimp only at hW); go_simp <;> with_reducible rfl); simp only [List.getElem_toArray, List.getElem_cons_zero, List.getElem_cons_succ, Act.put, List.setIfInBounds_toArray, List.set_cons_zero, List.set_cons_succ])
              refine plan_done ?_
              clear c1 c1w d1 e0 e1 e2 f0 f1 f2
              go_wp2_with fail
              go_roundw
              case rel => exact ⟨⟨j + 1, by go_num, by omega, HT2.out⟩, HB6.out⟩
              case measure => simp [intOf]; omega
            · rw [decide_eq_false hxy]
              have HH : Hid (P = false) := HPE.out.trans (HI.out hxy)
              clear hxy
              iterate 1 (refine plan_read rfl (by rfl) (v := ?_) ?_ ?_; rotate_left 1; (intro W hW; have hW0 := below_step hBase hW; (try dsimp only at hW); go_simp <;> with_reducible rfl); simp only [List.getElem_toArray, List.getElem_cons_zero, List.getElem_cons_succ, Act.put, List.setIfInBounds_toArray, List.set_cons_zero, List.set_cons_succ])
              refine plan_done ?_
              clear c1 c1w d1 e0 e1 e2 f0 f1 f2
              go_wp2_with fail
              go_ret
              exact ⟨by rw [HH.out]; rfl, HB7.out⟩
          · have HH : Hid (P = true) := by
              unfold Hid
              rw [HPE.out, decide_eq_true_iff]
              have : j = n := by omega
              subst this
              have h1 := List.take_of_length_le (l := conE es) (i := j) (by rw [conE_length, HN.out]; exact Nat.le_refl _)
              have h2 := List.take_of_length_le (l := conE es') (i := j) (by rw [conE_length, HN'.out]; exact Nat.le_refl _)
              rw [← h1, ← h2, htk]
            have j1 : ¬ (j : Int) < (n : Int) := by omega
            have c1w : wr.cell? ⟨w.heap.size, 1, none⟩ = some (.slice eA n ec) := hR05.cell rfl
            clear hB htk
            go_wp2_with fail
            go_ret
            exact ⟨by rw [HH.out]; rfl, HB5.out⟩
      · rw [decide_eq_false h3]
        have HPF : Hid (P = false) := by unfold Hid; rw [← HP.out]; simp [h3]
        go_wp2_with fail
        go_ret
        exact ⟨by rw [HPF.out]; rfl, HB4.out⟩
    · have HPF : Hid (P = false) := by
        unfold Hid
        rw [← HP.out, decide_eq_false_iff_not]
        intro e
        injection e with _ e
        injection e with e _
        have := congrArg List.length e
        rw [conE_length, conE_length, HN.out, HN'.out] at this
        exact h2 this
      have hne : ((n : Int) != (n' : Int)) = true := by simp; omega
      have hnd : (n != n') = true := by simp; omega
      go_wp2_with fail
      go_ret
      exact ⟨by rw [HPF.out]; rfl, HB.out⟩
  · have HPF : Hid (P = false) := by unfold Hid; rw [← HP.out]; simp [h1]
    have hne : ((v : Int) != (v' : Int)) = true := by simp; omega
    have hnd : (v != v') = true := by simp; omega
    go_wp2_with fail
    go_ret
    exact ⟨by rw [HPF.out]; rfl, HB.out⟩
end Go.Proofs.YtknjpmoimjhddaaGreatDoor
/-
  A literal's bytes, converted to their own type: a row with a frozen mark reads as the bytes did (no program is named here). No conditions but those typed.
-/
namespace Go.Proofs.YtknjpmoimjhddaaGreatDoor
set_option maxRecDepth 100000
open Go.RowKit

theorem Rd.new_fr {α : Type} {f : α → Value} (w : World) (g : Nat) (hg : g = w.heap.size) (l : List α) (cs : Array Value) (e : TypeId) (fr : Nat × Nat) (h : cs = (l.map f).toArray) : Rd f (w.alloc (.cells cs e fr)) (some ⟨g, 0, none⟩) l := fun _ => by
  subst hg
  refine ⟨w.heap.size, 0, rfl, fun i hi => ?_⟩
  subst h
  rw [cell_of_row _ w.heap.size (0 + i) _ e fr (heap_alloc_new w _)]
  simp [hi]
end Go.Proofs.YtknjpmoimjhddaaGreatDoor
