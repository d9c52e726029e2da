/-
  What the program's calls of layer 6 answer: New, Right, Tag, Fits. Condition: the package's table holds sixty-four words (for tags).
-/
import Derived.Test.YtcejbofdgljemaaQ4
import Derived.Handy
import Derived.Lib.SmallJoins
import Derived.Lib.SlBytesConst
import Derived.Deep.DeepCutAuto
import Derived.ProofKit
import Derived.OpenShut
import Derived.Deep.Slices
import Derived.Deep.Strs
import Derived.Test.YtcejbofdgljemaaRows
import Derived.HandedShaped
namespace Go.Proofs.Ytcejbofdgljemaa
set_option maxRecDepth 100000
open Go.RowKit
set_option linter.unusedSimpArgs false
set_option linter.unusedVariables false

/-- Three results, the first of them a whole block. -/
theorem results_row_tmp2 {P : Program} {fn : Func} {p u v : Tmp} {ty : TypeId} (h : fn.results = #[.cell p ty, .tmp u, .tmp v]) (tmps : Array Value) (w : World) (g : Nat) (t : TypeId) (l : List Value) (d : TypeDesc) (hp : tmps.getD p undef = .pointer (some ⟨g, 0, none⟩)) (hg : Row w g t l)
    (hu : P.underlying ty = some d) (hd : d.isRow = true) (hi : (P.info? ty).map (·.size) = some l.length) : (results fn tmps).run P w = .ok (.tuple #[.agg l.toArray, tmps.getD u undef, tmps.getD v undef]) w := by
  have e : (results fn tmps).run P w = ((asAddr (tmps.getD p undef)).run P w).andThen fun a w₁ => ((loadVar ty a).run P w₁).andThen fun x w₂ => .ok (.tuple #[x, tmps.getD u undef, tmps.getD v undef]) w₂ := by
    simp only [results, h]
    simp [Sem.run_bind, Result.andThen]
  rw [e, hp]
  simp only [asAddr, Sem.run_pure, Result.andThen_ok, hg.loadVar (P := P) ty d hu hd hi]
theorem maker_one (A : Option Addr) (c : Nat) (w : World) :
    Calls Try.prog 17 #[.agg #[.int .i64 1, .slice A 0 c]] w fun e w' => e = .returned (.tuple #[.iface 55 (.agg #[.int .i64 1, .slice A 0 c]), .bool true]) ∧ Below w.heap.size w w' := by
  obtain ⟨hR, hB⟩ := box_rows w 24 (.int .i64 1) (.slice A 0 c)
  have c0 : (w.alloc (.cells #[.int .i64 1, .slice A 0 c] 24)).cell? ⟨w.heap.size, 0, none⟩ = some (.int .i64 1) := hR.cell rfl
  go_enter Try.func17, Try.ntmps17
  go_wp2_with (refine wpList_load_part rfl 24 (.tmp 1) rfl w.heap.size 0 rfl _ _ hR [.int .i64 1, .slice A 0 c] (by rfl) _ Try.underlying24 rfl (by exact size_engine) ?_)
  refine (cright_any 1 0 A c _ (by omega)).mono ?_
  rintro e w' ⟨rfl, hb⟩
  have hd : decide ((0 : Nat) = 0) = true := rfl
  rw [hd]
  go_wp2_with fail
  go_ret2
  exact ⟨rfl, below_step hB hb⟩
theorem maker_two (ts : List TD) (p : Nat) (A : Option Addr) (c : Nat) (w : World) (HP : Hid (ts.length = p)) (HL : Hid (lenT (conT ts))) (ht : RdT w A ts) (hok : okT w ts) (hp : p ≤ 1000000000) (hc : p ≤ c) (HR : Hid (rightT (conT ts) = true)) :
    Calls Try.prog 17 #[.agg #[.int .i64 2, .slice A p c]] w fun e w' => e = .returned (.tuple #[.iface 56 (.agg #[.int .i64 2, .slice A p c]), .bool true]) ∧ Below w.heap.size w w' := by
  obtain ⟨hR, hB⟩ := box_rows w 24 (.int .i64 2) (.slice A p c)
  have c0 : (w.alloc (.cells #[.int .i64 2, .slice A p c] 24)).cell? ⟨w.heap.size, 0, none⟩ = some (.int .i64 2) := hR.cell rfl
  go_enter Try.func17, Try.ntmps17
  go_wp2_with (refine wpList_load_part rfl 24 (.tmp 1) rfl w.heap.size 0 rfl _ _ hR [.int .i64 2, .slice A p c] (by rfl) _ Try.underlying24 rfl (by exact size_engine) ?_)
  refine (sright_any ts 2 p A c _ HP HL (ht.keep hB) (hok.keep hB) hp hc).mono ?_
  rintro e w' ⟨rfl, hb⟩
  rw [HR.out]
  go_wp2_with fail
  go_ret2
  exact ⟨rfl, below_step hB hb⟩
theorem maker_bad (K : Int) (ts : List TD) (p : Nat) (A : Option Addr) (c : Nat) (w : World) (HP : Hid (ts.length = p)) (HL : Hid (lenT (conT ts))) (ht : RdT w A ts) (hok : okT w ts) (hp : p ≤ 1000000000) (hc : p ≤ c) (HR : Hid (rightE K (conT ts) = false)) :
    Calls Try.prog 17 #[.agg #[.int .i64 K, .slice A p c]] w fun e w' => e = .returned (.tuple #[.nilIface, .bool false]) ∧ Below w.heap.size w w' := by
  obtain ⟨hR, hB⟩ := box_rows w 24 (.int .i64 K) (.slice A p c)
  have c0 : (w.alloc (.cells #[.int .i64 K, .slice A p c] 24)).cell? ⟨w.heap.size, 0, none⟩ = some (.int .i64 K) := hR.cell rfl
  by_cases h1 : K = 1
  · subst h1
    have h0 : p ≠ 0 := fun h => by
      have e : conT ts = [] := List.length_eq_zero_iff.1 (by rw [conT_length, HP.out, h])
      have := HR.out
      rw [e, rightE_one] at this
      cases this
    have hd : Hid (decide (p = 0) = false) := decide_eq_false h0
    go_enter Try.func17, Try.ntmps17
    go_wp2_with (refine wpList_load_part rfl 24 (.tmp 1) rfl w.heap.size 0 rfl _ _ hR [.int .i64 1, .slice A p c] (by rfl) _ Try.underlying24 rfl (by exact size_engine) ?_)
    refine (cright_any 1 p A c _ hp).mono ?_
    rintro e w' ⟨rfl, hb⟩
    rw [hd.out]
    go_wp2_with fail
    go_ret2
    exact ⟨rfl, below_step hB hb⟩
  · have k1 : (K == 1) = false := by simp [h1]
    by_cases h2 : K = 2
    · subst h2
      have HF : Hid (rightT (conT ts) = false) := by
        have := HR.out
        unfold rightE at this
        unfold Hid
        simpa using this
      go_enter Try.func17, Try.ntmps17
      go_wp2_with (refine wpList_load_part rfl 24 (.tmp 1) rfl w.heap.size 0 rfl _ _ hR [.int .i64 2, .slice A p c] (by rfl) _ Try.underlying24 rfl (by exact size_engine) ?_)
      refine (sright_any ts 2 p A c _ HP HL (ht.keep hB) (hok.keep hB) hp hc).mono ?_
      rintro e w' ⟨rfl, hb⟩
      rw [HF.out]
      go_wp2_with fail
      go_ret2
      exact ⟨rfl, below_step hB hb⟩
    · have k2 : (K == 2) = false := by simp [h2]
      go_enter Try.func17, Try.ntmps17
      go_wp2_with fail
      go_ret2
      exact ⟨rfl, hB⟩

theorem rightE_any (K : Int) (ts : List TD) (p : Nat) (A : Option Addr) (c : Nat) (w : World) (HP : Hid (ts.length = p)) (HL : Hid (lenT (conT ts))) (ht : RdT w A ts) (hok : okT w ts) (hp : p ≤ 1000000) (hc : p ≤ c) :
    Calls Try.prog 12 #[.agg #[.int .i64 K, .slice A p c]] w fun e w' => e = .returned (.bool (rightE K (conT ts))) ∧ Below w.heap.size w w' := by
  obtain ⟨hR, hB⟩ := box_rows w 24 (.int .i64 K) (.slice A p c)
  have hm : Calls Try.prog 17 #[.agg #[.int .i64 K, .slice A p c]] (w.alloc (.cells #[.int .i64 K, .slice A p c] 24)) fun e w' => ∃ v, e = .returned (.tuple #[v, .bool (rightE K (conT ts))]) ∧ Below (w.alloc (.cells #[.int .i64 K, .slice A p c] 24)).heap.size (w.alloc (.cells #[.int .i64 K, .slice A p c] 24)) w' := by
    by_cases hr : rightE K (conT ts) = true
    · rw [hr]
      rcases rightE_cases hr with ⟨rfl, h0⟩ | ⟨rfl, hT⟩
      · have e0 : p = 0 := by rw [← HP.out, ← conT_length, h0]; rfl
        subst e0
        exact (maker_one A c _).mono fun e w' ⟨he, hb⟩ => ⟨_, he, hb⟩
      · exact (maker_two ts p A c _ HP HL (ht.keep hB) (hok.keep hB) (by omega) hc (Lib.hid hT)).mono fun e w' ⟨he, hb⟩ => ⟨_, he, hb⟩
    · rw [Bool.eq_false_iff.2 hr]
      exact (maker_bad K ts p A c _ HP HL (ht.keep hB) (hok.keep hB) (by omega) hc (Lib.hid (Bool.eq_false_iff.2 hr))).mono fun e w' ⟨he, hb⟩ => ⟨_, he, hb⟩
  generalize rightE K (conT ts) = r at hm ⊢
  go_enter Try.func12, Try.ntmps12
  go_wp2_with (refine wpList_load_part rfl 24 (.tmp 1) rfl w.heap.size 0 rfl _ _ hR [.int .i64 K, .slice A p c] (by rfl) _ Try.underlying24 rfl (by exact size_engine) ?_)
  refine hm.mono ?_
  rintro e w' ⟨v, rfl, hb⟩
  clear hm
  go_wp2_with fail
  go_ret
  exact ⟨rfl, below_step hB hb⟩
/-- What a tag's call hands back, by an engine that is right, and by another one. -/
def TagGood [Inhabited Tab] (K : Int) (ts : List TD) (x : Tm) (w : World) (e : Ending) (w' : World) : Prop :=
  ∃ (us : List TD) (p : Nat) (A : Option Addr) (c : Nat) (tA : Option Addr) (tc : Nat), e = .returned (.tuple #[.agg #[.int .i64 K, .slice A p c], .slice tA 8 tc, .int .i64 0]) ∧ Hid (us.length = p) ∧ p ≤ c ∧ 8 ≤ tc ∧ RdT w' A us ∧ okT w' us ∧ Hid (conT us = termsE K (conT ts) x) ∧ Rd vB w' tA (bytesE K (conT ts) x) ∧ Below w.heap.size w w'
def TagBad (K : Int) (ts : List TD) (w : World) (e : Ending) (w' : World) : Prop :=
  ∃ (us : List TD) (p : Nat) (A : Option Addr) (c : Nat) (tA : Option Addr) (tc : Nat), e = .returned (.tuple #[.agg #[.int .i64 K, .slice A p c], .slice tA 0 tc, .int .i64 1]) ∧ Hid (us.length = p) ∧ p ≤ c ∧ RdT w' A us ∧ okT w' us ∧ Hid (conT us = conT ts) ∧ Below w.heap.size w w'
theorem tagE_good [Inhabited Tab] (K : Int) (ts : List TD) (key msg : List UInt8) (p n m : Nat) (A B C : Option Addr) (c d e : Nat) (w : World) (HP : Hid (ts.length = p)) (HL : Hid (lenT (conT ts))) (HN : Hid (key.length = n)) (HM : Hid (msg.length = m)) (ht : RdT w A ts) (hok : okT w ts) (hk : Rd vB w B key) (hm : Rd vB w C msg) (hp : p ≤ 1000000) (hc : p ≤ c) (hn : n ≤ 1000000) (hmm : m ≤ 1000000) (hnd : n ≤ d) (hme : m ≤ e) (HR : Hid (rightE K (conT ts) = true)) (HK : Hid (KTab w)) :
    Calls Try.prog 10 #[.agg #[.int .i64 K, .slice A p c], .slice B n d, .slice C m e] w (TagGood K ts (key, msg) w) := by
  obtain ⟨hR, hB0⟩ := box_rows w 24 (.int .i64 K) (.slice A p c)
  have hR1 := hR.alloc (.cells #[.int .i64 0, .slice none 0 0] 24)
  have hB := below_new hB0 (.cells #[.int .i64 0, .slice none 0 0] 24)
  have hR2 : Row ((w.alloc (.cells #[.int .i64 K, .slice A p c] 24)).alloc (.cells #[.int .i64 0, .slice none 0 0] 24)) (w.heap.size + 1) 24 [.int .i64 0, .slice none 0 0] := Row.new_at _ _ (by simp) _ _ _ rfl
  replace ht := ht.keep hB
  replace hok := hok.keep hB
  replace hk := hk.keep hB
  replace hm := hm.keep hB
  replace HK := Lib.hid (HK.out.keep hB)
  clear hR hB0
  go_enter Try.func10, Try.ntmps10
  go_upto_region 1 with fail
  generalize (w.alloc (.cells #[.int .i64 K, .slice A p c] 24)).alloc (.cells #[.int .i64 0, .slice none 0 0] 24) = W2 at hR1 hR2 hB ht hok hk hm HK ⊢
  have hnb := two_no_byte 0 (.slice none 0 0) (slice_no_byte none 0 0)
  rcases rightE_cases HR.out with ⟨rfl, h0⟩ | ⟨rfl, hT⟩
  · have e0 : p = 0 := by rw [← HP.out, ← conT_length, h0]; rfl
    have e1 : ts = [] := List.length_eq_zero_iff.1 (by rw [HP.out, e0])
    subst e0 e1
    clear h0
    go_upto_region 2 with (first | (refine wpList_load_part rfl 24 (.tmp 3) rfl w.heap.size 0 rfl _ _ hR1 [.int .i64 1, .slice A 0 c] (by rfl) _ Try.underlying24 rfl (by exact size_engine) ?_) | (go_at_call 17; refine (maker_one A c _).mono ?_; rintro e' w3 ⟨rfl, hb⟩))
    replace hR2 := hR2.later hb
    replace hk := hk.keep hb
    replace hm := hm.keep hb
    replace HK := Lib.hid (HK.out.keep hb)
    replace hB := below_step hB hb
    clear hb hR1 ht hok
    go_wp2_with fail
    refine (ctag_any 1 key msg 0 n m A B C c d e _ HN HM hk hm hn hmm hnd HK).mono ?_
    rintro e' w4 ⟨tA, tc, rfl, htc, hr, hb⟩
    replace hR2 := hR2.later hb
    have HB := Lib.hid (below_step hB hb)
    clear hb hB hk hm
    have hR3 : Row (w4.alloc (.cells #[.int .i64 0, .slice none 0 0] 24)) w4.heap.size 24 [.int .i64 0, .slice none 0 0] := Row.new w4 _ _ _ rfl
    go_upto_region 5 with (refine wpList_store_row rfl 24 (.tmp 11) (.tmp 27) rfl w4.heap.size rfl [.int .i64 1, .slice none 0 0] rfl _ _ hR3 (by exact size_engine) rfl (one_pair _ _ rfl rfl) ?_)
    have hR4 := hR3.setRow [.int .i64 1, .slice none 0 0]
    have hbn : Below w4.heap.size w4 ((w4.alloc (.cells #[.int .i64 0, .slice none 0 0] 24)).setRow w4.heap.size [.int .i64 1, .slice none 0 0].toArray) := below_setRow (below_new (Below.refl _ _) _) (Nat.le_refl _) _
    generalize (w4.alloc (.cells #[.int .i64 0, .slice none 0 0] 24)).setRow w4.heap.size [.int .i64 1, .slice none 0 0].toArray = w5 at hR4 hbn ⊢
    replace hR2 := hR2.later hbn
    replace hr := hr.keep hbn
    replace HB := Lib.hid (below_step HB.out hbn)
    clear hR3 hbn
    generalize w4.heap.size = g at hR4 ⊢
    go_wp2_with (first | (refine wpList_load_part rfl 24 (.tmp 11) rfl g 0 rfl _ _ hR4 [.int .i64 1, .slice none 0 0] (by rfl) _ Try.underlying24 rfl (by exact size_engine) ?_) | (refine wpList_store_row rfl 24 (.tmp 6) (.tmp 29) rfl (w.heap.size + 1) rfl [.int .i64 1, .slice none 0 0] rfl _ _ hR2 (by exact size_engine) rfl (one_pair _ _ rfl rfl) ?_))
    refine bodyPost_ret (results_row_tmp2 (p := 6) (u := 7) (v := 8) (ty := 24) (by rfl) _ _ (w.heap.size + 1) 24 _ _ (by rfl) (by exact hR2.setRow _) Try.underlying24 (by rfl) (by exact size_engine)) (by rfl) ?_
    exact ⟨[], 0, none, 0, tA, tc, rfl, Lib.hid rfl, Nat.le_refl _, htc, RdT.nil, (fun x hx => by cases hx), rfl, hr.setRow_row hR2 hnb _, below_setRow HB.out (by omega) _⟩
  · go_upto_region 2 with (first | (refine wpList_load_part rfl 24 (.tmp 3) rfl w.heap.size 0 rfl _ _ hR1 [.int .i64 2, .slice A p c] (by rfl) _ Try.underlying24 rfl (by exact size_engine) ?_) | (go_at_call 17; refine (maker_two ts p A c _ HP HL ht hok (by omega) hc (Lib.hid hT)).mono ?_; rintro e' w3 ⟨rfl, hb⟩))
    replace hR2 := hR2.later hb
    replace ht := ht.keep hb
    replace hok := hok.keep hb
    replace hk := hk.keep hb
    replace hm := hm.keep hb
    replace hB := below_step hB hb
    clear hb hR1
    go_wp2_with fail
    refine (stag_any ts key msg p n m A B C c d e _ HP HN HM HL ht hok hk hm hp hc hn hmm).mono ?_
    rintro e' w4 ⟨us, q, A', c', tA, tc, rfl, HQ, hqc, htc, htu, hoku, HC, hr, hb⟩
    replace hR2 := hR2.later hb
    have HB := Lib.hid (below_step hB hb)
    clear hb hB hk hm ht hok
    have hR3 : Row (w4.alloc (.cells #[.int .i64 0, .slice none 0 0] 24)) w4.heap.size 24 [.int .i64 0, .slice none 0 0] := Row.new w4 _ _ _ rfl
    go_upto_region 5 with (refine wpList_store_row rfl 24 (.tmp 11) (.tmp 27) rfl w4.heap.size rfl [.int .i64 2, .slice A' q c'] rfl _ _ hR3 (by exact size_engine) rfl (one_pair _ _ rfl rfl) ?_)
    have hR4 := hR3.setRow [.int .i64 2, .slice A' q c']
    have hbn : Below w4.heap.size w4 ((w4.alloc (.cells #[.int .i64 0, .slice none 0 0] 24)).setRow w4.heap.size [.int .i64 2, .slice A' q c'].toArray) := below_setRow (below_new (Below.refl _ _) _) (Nat.le_refl _) _
    generalize (w4.alloc (.cells #[.int .i64 0, .slice none 0 0] 24)).setRow w4.heap.size [.int .i64 2, .slice A' q c'].toArray = w5 at hR4 hbn ⊢
    replace hR2 := hR2.later hbn
    replace hr := hr.keep hbn
    replace htu := htu.keep hbn
    replace hoku := hoku.keep hbn
    replace HB := Lib.hid (below_step HB.out hbn)
    clear hR3 hbn
    generalize w4.heap.size = g at hR4 ⊢
    go_wp2_with (first | (refine wpList_load_part rfl 24 (.tmp 11) rfl g 0 rfl _ _ hR4 [.int .i64 2, .slice A' q c'] (by rfl) _ Try.underlying24 rfl (by exact size_engine) ?_) | (refine wpList_store_row rfl 24 (.tmp 6) (.tmp 29) rfl (w.heap.size + 1) rfl [.int .i64 2, .slice A' q c'] rfl _ _ hR2 (by exact size_engine) rfl (one_pair _ _ rfl rfl) ?_))
    refine bodyPost_ret (results_row_tmp2 (p := 6) (u := 7) (v := 8) (ty := 24) (by rfl) _ _ (w.heap.size + 1) 24 _ _ (by rfl) (by exact hR2.setRow _) Try.underlying24 (by rfl) (by exact size_engine)) (by rfl) ?_
    exact ⟨us, q, A', c', tA, tc, rfl, HQ, hqc, htc, htu.setRow_row hR2 _, hoku.setRow_row hR2 hnb _, HC, hr.setRow_row hR2 hnb _, below_setRow HB.out (by omega) _⟩
theorem tagE_bad [Inhabited Tab] (K : Int) (ts : List TD) (key msg : List UInt8) (p n m : Nat) (A B C : Option Addr) (c d e : Nat) (w : World) (HP : Hid (ts.length = p)) (HL : Hid (lenT (conT ts))) (ht : RdT w A ts) (hok : okT w ts) (hp : p ≤ 1000000) (hc : p ≤ c) (HR : Hid (rightE K (conT ts) = false)) (HK : Hid (KTab w)) :
    Calls Try.prog 10 #[.agg #[.int .i64 K, .slice A p c], .slice B n d, .slice C m e] w (TagBad K ts w) := by
  obtain ⟨hR, hB0⟩ := box_rows w 24 (.int .i64 K) (.slice A p c)
  have hR1 := hR.alloc (.cells #[.int .i64 0, .slice none 0 0] 24)
  have hB := below_new hB0 (.cells #[.int .i64 0, .slice none 0 0] 24)
  have hR2 : Row ((w.alloc (.cells #[.int .i64 K, .slice A p c] 24)).alloc (.cells #[.int .i64 0, .slice none 0 0] 24)) (w.heap.size + 1) 24 [.int .i64 0, .slice none 0 0] := Row.new_at _ _ (by simp) _ _ _ rfl
  replace ht := ht.keep hB
  replace hok := hok.keep hB
  clear hR hB0
  go_enter Try.func10, Try.ntmps10
  go_upto_region 1 with fail
  generalize (w.alloc (.cells #[.int .i64 K, .slice A p c] 24)).alloc (.cells #[.int .i64 0, .slice none 0 0] 24) = W2 at hR1 hR2 hB ht hok ⊢
  go_wp2_with (refine wpList_load_part rfl 24 (.tmp 3) rfl w.heap.size 0 rfl _ _ hR1 [.int .i64 K, .slice A p c] (by rfl) _ Try.underlying24 rfl (by exact size_engine) ?_)
  refine (maker_bad K ts p A c _ HP HL ht hok (by omega) hc HR).mono ?_
  rintro e' w3 ⟨rfl, hb⟩
  replace hR1 := hR1.later hb
  replace hR2 := hR2.later hb
  replace ht := ht.keep hb
  replace hok := hok.keep hb
  replace hB := below_step hB hb
  clear hb
  go_wp2_with (refine wpList_load_part rfl 24 (.tmp 3) rfl w.heap.size 0 rfl _ _ hR1 [.int .i64 K, .slice A p c] (by rfl) _ Try.underlying24 rfl (by exact size_engine) ?_)
  refine (ecopied_any K ts p A c _ HP HL ht hok hp hc).mono ?_
  rintro e' w4 ⟨us, A', c', rfl, HU, hpc, hrt, hus, HC, hb⟩
  replace hR2 := hR2.later hb
  have HB := Lib.hid (below_step hB hb)
  clear hb hB hR1 ht hok
  go_wp2_with (refine wpList_store_row rfl 24 (.tmp 6) (.tmp 21) rfl (w.heap.size + 1) rfl [.int .i64 K, .slice A' p c'] rfl _ _ hR2 (by exact size_engine) rfl (one_pair _ _ rfl rfl) ?_)
  refine bodyPost_ret (results_row_tmp2 (p := 6) (u := 7) (v := 8) (ty := 24) (by rfl) _ _ (w.heap.size + 1) 24 _ _ (by rfl) (by exact hR2.setRow _) Try.underlying24 (by rfl) (by exact size_engine)) (by rfl) ?_
  have hnb := two_no_byte 0 (.slice none 0 0) (slice_no_byte none 0 0)
  exact ⟨us, p, A', c', none, 0, rfl, HU, hpc, hrt.setRow_row hR2 _, hus.setRow_row hR2 hnb _, HC, below_setRow HB.out (by omega) _⟩
theorem fitsE_any [Inhabited Tab] (K : Int) (ts : List TD) (key msg tag : List UInt8) (p n m q : Nat) (A B C D : Option Addr) (c d e f : Nat) (w : World) (HP : Hid (ts.length = p)) (HL : Hid (lenT (conT ts))) (HN : Hid (key.length = n)) (HM : Hid (msg.length = m)) (HQ : Hid (tag.length = q)) (ht : RdT w A ts) (hok : okT w ts) (hk : Rd vB w B key) (hm : Rd vB w C msg) (hg : Rd vB w D tag) (hp : p ≤ 1000000) (hc : p ≤ c) (hn : n ≤ 1000000) (hmm : m ≤ 1000000) (hq : q ≤ 1000000) (hnd : n ≤ d) (hme : m ≤ e) (hqf : q ≤ f) (HK : Hid (KTab w)) :
    Calls Try.prog 13 #[.agg #[.int .i64 K, .slice A p c], .slice B n d, .slice C m e, .slice D q f] w fun e w' => e = .returned (.bool (fitsE K (conT ts) (key, msg) tag)) ∧ Below w.heap.size w w' := by
  obtain ⟨hR, hB⟩ := box_rows w 24 (.int .i64 K) (.slice A p c)
  replace ht := ht.keep hB
  replace hok := hok.keep hB
  replace hk := hk.keep hB
  replace hm := hm.keep hB
  replace hg := hg.keep hB
  replace HK := Lib.hid (HK.out.keep hB)
  obtain ⟨r, hr⟩ : ∃ r, rightE K (conT ts) = r := ⟨_, rfl⟩
  cases r with
  | false =>
    have HF : Hid (fitsE K (conT ts) (key, msg) tag = false) := fitsE_wrong _ _ hr
    go_enter Try.func13, Try.ntmps13
    go_wp2_with (refine wpList_load_part rfl 24 (.tmp 4) rfl w.heap.size 0 rfl _ _ hR [.int .i64 K, .slice A p c] (by rfl) _ Try.underlying24 rfl (by exact size_engine) ?_)
    refine (maker_bad K ts p A c _ HP HL ht hok (by omega) hc (Lib.hid hr)).mono ?_
    rintro e' w3 ⟨rfl, hb⟩
    go_wp2_with fail
    go_ret
    exact ⟨by rw [HF.out]; rfl, below_step hB hb⟩
  | true =>
    rcases rightE_cases hr with ⟨rfl, h0⟩ | ⟨rfl, hT⟩
    · have e0 : p = 0 := by rw [← HP.out, ← conT_length, h0]; rfl
      have HF : Hid (fitsE 1 (conT ts) (key, msg) tag = decide ((macL key msg).take 8 = tag)) := by
        unfold Hid fitsE bytesE
        rw [hr]
        simp
      subst e0
      go_enter Try.func13, Try.ntmps13
      go_upto_region 2 with (first | (refine wpList_load_part rfl 24 (.tmp 4) rfl w.heap.size 0 rfl _ _ hR [.int .i64 1, .slice A 0 c] (by rfl) _ Try.underlying24 rfl (by exact size_engine) ?_) | (go_at_call 17; refine (maker_one A c _).mono ?_; rintro e' w3 ⟨rfl, hb⟩))
      replace hk := hk.keep hb
      replace hm := hm.keep hb
      replace hg := hg.keep hb
      replace HK := Lib.hid (HK.out.keep hb)
      replace hB := below_step hB hb
      clear hb hr ht hok h0
      go_wp2_with fail
      refine (cfits_any 1 key msg tag 0 n m q A B C D c d e f _ HN HM HQ hk hm hg hn hmm hq hnd HK).mono ?_
      rintro e' w4 ⟨rfl, hb⟩
      rw [← HF.out]
      go_wp2_with fail
      go_ret
      exact ⟨rfl, below_step hB hb⟩
    · have HF : Hid (fitsE 2 (conT ts) (key, msg) tag = decide ((key, msg) ∈ conT ts ∧ tagT (conT ts) (key, msg) = tag)) := by
        unfold Hid fitsE bytesE
        rw [hr]
        simp [Bool.decide_and]
      go_enter Try.func13, Try.ntmps13
      go_upto_region 2 with (first | (refine wpList_load_part rfl 24 (.tmp 4) rfl w.heap.size 0 rfl _ _ hR [.int .i64 2, .slice A p c] (by rfl) _ Try.underlying24 rfl (by exact size_engine) ?_) | (go_at_call 17; refine (maker_two ts p A c _ HP HL ht hok (by omega) hc (Lib.hid hT)).mono ?_; rintro e' w3 ⟨rfl, hb⟩))
      replace ht := ht.keep hb
      replace hok := hok.keep hb
      replace hk := hk.keep hb
      replace hm := hm.keep hb
      replace hg := hg.keep hb
      replace hB := below_step hB hb
      clear hb hr
      have HT := Lib.hid hT
      clear hT
      go_wp2_with fail
      refine (sfits_any 2 ts key msg tag p n m q A B C D c d e f _ HP HN HM HQ HL ht hok hk hm hg hp hc hn hmm hq HT).mono ?_
      rintro e' w4 ⟨rfl, hb⟩
      rw [← HF.out]
      go_wp2_with fail
      go_ret
      exact ⟨rfl, below_step hB hb⟩

theorem newE_one (kind : Int) (w : World) (HR : Hid (rightE kind [] = true)) :
    Calls Try.prog 7 #[.int .i64 kind] w fun e w' => ∃ A c, e = .returned (.tuple #[.agg #[.int .i64 kind, .slice A 0 c], .int .i64 0]) ∧ Below w.heap.size w w' := by
  obtain ⟨hR0, hB0⟩ := box_rows w 24 (.int .i64 0) (.slice none 0 0)
  have hRa : Row ((w.alloc (.cells #[.int .i64 0, .slice none 0 0] 24)).alloc (.cells #[.int .i64 0, .slice none 0 0] 24)) (w.heap.size + 1) 24 [.int .i64 0, .slice none 0 0] := Row.new_at _ _ (by simp) _ _ _ rfl
  go_enter Try.func7, Try.ntmps7
  go_upto_region 2 with (refine wpList_store_row rfl 24 (.tmp 4) (.tmp 6) rfl (w.heap.size + 1) rfl [.int .i64 kind, .slice none 0 0] rfl _ _ hRa (by exact size_engine) rfl (one_pair _ _ rfl rfl) ?_)
  have hR1 := hRa.setRow [.int .i64 kind, .slice none 0 0]
  have hR2 : Row (((w.alloc (.cells #[.int .i64 0, .slice none 0 0] 24)).alloc (.cells #[.int .i64 0, .slice none 0 0] 24)).setRow (w.heap.size + 1) [.int .i64 kind, .slice none 0 0].toArray) w.heap.size 24 [.int .i64 0, .slice none 0 0] := (hR0.alloc _).setRow_other (by omega) _
  have hB : Below w.heap.size w (((w.alloc (.cells #[.int .i64 0, .slice none 0 0] 24)).alloc (.cells #[.int .i64 0, .slice none 0 0] 24)).setRow (w.heap.size + 1) [.int .i64 kind, .slice none 0 0].toArray) := below_setRow (below_new hB0 _) (by omega) _
  generalize ((w.alloc (.cells #[.int .i64 0, .slice none 0 0] 24)).alloc (.cells #[.int .i64 0, .slice none 0 0] 24)).setRow (w.heap.size + 1) [.int .i64 kind, .slice none 0 0].toArray = w1 at hR1 hR2 hB ⊢
  clear hRa hR0 hB0
  go_wp2_with (refine wpList_load_part rfl 24 (.tmp 4) rfl (w.heap.size + 1) 0 rfl _ _ hR1 [.int .i64 kind, .slice none 0 0] (by rfl) _ Try.underlying24 rfl (by exact size_engine) ?_)
  refine (rightE_any kind [] 0 none 0 _ (Lib.hid rfl) (Lib.hid lenT.nil) RdT.nil (fun x hx => by cases hx) (by omega) (Nat.le_refl _)).mono ?_
  rintro e w2 ⟨rfl, hb⟩
  rw [show conT [] = [] from rfl, HR.out]
  replace hR1 := hR1.later hb
  replace hR2 := hR2.later hb
  replace hB := below_step hB hb
  clear hb
  go_wp2_with (first | (refine wpList_load_part rfl 24 (.tmp 4) rfl (w.heap.size + 1) 0 rfl _ _ hR1 [.int .i64 kind, .slice none 0 0] (by rfl) _ Try.underlying24 rfl (by exact size_engine) ?_) | (refine wpList_store_row rfl 24 (.tmp 2) (.tmp 11) rfl w.heap.size rfl [.int .i64 kind, .slice none 0 0] rfl _ _ hR2 (by exact size_engine) rfl (one_pair _ _ rfl rfl) ?_))
  refine bodyPost_ret (results_row_tmp (p := 2) (u := 3) (ty := 24) (by rfl) _ _ w.heap.size 24 _ _ (by rfl) (by exact hR2.setRow _) Try.underlying24 (by rfl) (by exact size_engine)) (by rfl) ?_
  exact ⟨none, 0, rfl, below_setRow hB (Nat.le_refl _) _⟩
theorem newE_good (kind : Int) (w : World) (h : kind = 1 ∨ kind = 2) :
    Calls Try.prog 7 #[.int .i64 kind] w fun e w' => ∃ A c, e = .returned (.tuple #[.agg #[.int .i64 kind, .slice A 0 c], .int .i64 0]) ∧ Below w.heap.size w w' := newE_one kind w (by
  rcases h with rfl | rfl
  · exact Lib.hid (by decide +kernel)
  · exact Lib.hid (by decide +kernel))
theorem newE_bad (kind : Int) (w : World) (h1 : kind ≠ 1) (h2 : kind ≠ 2) :
    Calls Try.prog 7 #[.int .i64 kind] w fun e w' => ∃ A c, e = .returned (.tuple #[.agg #[.int .i64 0, .slice A 0 c], .int .i64 1]) ∧ Below w.heap.size w w' := by
  have HR : Hid (rightE kind [] = false) := by unfold Hid rightE; simp [h1, h2]
  obtain ⟨hR0, hB0⟩ := box_rows w 24 (.int .i64 0) (.slice none 0 0)
  have hRa : Row ((w.alloc (.cells #[.int .i64 0, .slice none 0 0] 24)).alloc (.cells #[.int .i64 0, .slice none 0 0] 24)) (w.heap.size + 1) 24 [.int .i64 0, .slice none 0 0] := Row.new_at _ _ (by simp) _ _ _ rfl
  go_enter Try.func7, Try.ntmps7
  go_upto_region 2 with (refine wpList_store_row rfl 24 (.tmp 4) (.tmp 6) rfl (w.heap.size + 1) rfl [.int .i64 kind, .slice none 0 0] rfl _ _ hRa (by exact size_engine) rfl (one_pair _ _ rfl rfl) ?_)
  have hR1 := hRa.setRow [.int .i64 kind, .slice none 0 0]
  have hR2 : Row (((w.alloc (.cells #[.int .i64 0, .slice none 0 0] 24)).alloc (.cells #[.int .i64 0, .slice none 0 0] 24)).setRow (w.heap.size + 1) [.int .i64 kind, .slice none 0 0].toArray) w.heap.size 24 [.int .i64 0, .slice none 0 0] := (hR0.alloc _).setRow_other (by omega) _
  have hB : Below w.heap.size w (((w.alloc (.cells #[.int .i64 0, .slice none 0 0] 24)).alloc (.cells #[.int .i64 0, .slice none 0 0] 24)).setRow (w.heap.size + 1) [.int .i64 kind, .slice none 0 0].toArray) := below_setRow (below_new hB0 _) (by omega) _
  generalize ((w.alloc (.cells #[.int .i64 0, .slice none 0 0] 24)).alloc (.cells #[.int .i64 0, .slice none 0 0] 24)).setRow (w.heap.size + 1) [.int .i64 kind, .slice none 0 0].toArray = w1 at hR1 hR2 hB ⊢
  clear hRa hR0 hB0
  go_wp2_with (refine wpList_load_part rfl 24 (.tmp 4) rfl (w.heap.size + 1) 0 rfl _ _ hR1 [.int .i64 kind, .slice none 0 0] (by rfl) _ Try.underlying24 rfl (by exact size_engine) ?_)
  refine (rightE_any kind [] 0 none 0 _ (Lib.hid rfl) (Lib.hid lenT.nil) RdT.nil (fun x hx => by cases hx) (by omega) (Nat.le_refl _)).mono ?_
  rintro e w2 ⟨rfl, hb⟩
  rw [show conT [] = [] from rfl, HR.out]
  replace hR2 := hR2.later hb
  replace hB := below_step hB hb
  clear hb hR1
  go_wp2_with (refine wpList_store_row rfl 24 (.tmp 2) (.tmp 10) rfl w.heap.size rfl [.int .i64 0, .slice none 0 0] rfl _ _ hR2 (by exact size_engine) rfl (one_pair _ _ rfl rfl) ?_)
  refine bodyPost_ret (results_row_tmp (p := 2) (u := 3) (ty := 24) (by rfl) _ _ w.heap.size 24 _ _ (by rfl) (by exact hR2.setRow _) Try.underlying24 (by rfl) (by exact size_engine)) (by rfl) ?_
  exact ⟨none, 0, rfl, below_setRow hB (Nat.le_refl _) _⟩
end Go.Proofs.Ytcejbofdgljemaa
/-
  A literal's bytes, converted to their own type: a row with a frozen mark reads as the bytes did (no program is named here). No conditions but those typed.
-/
namespace Go.Proofs.Ytcejbofdgljemaa
set_option maxRecDepth 100000
open Go.RowKit

theorem Rd.new_fr {α : Type} {f : α → Value} (w : World) (g : Nat) (hg : g = w.heap.size) (l : List α) (cs : Array Value) (e : TypeId) (fr : Nat × Nat) (h : cs = (l.map f).toArray) : Rd f (w.alloc (.cells cs e fr)) (some ⟨g, 0, none⟩) l := fun _ => by
  subst hg
  refine ⟨w.heap.size, 0, rfl, fun i hi => ?_⟩
  subst h
  rw [cell_of_row _ w.heap.size (0 + i) _ e fr (heap_alloc_new w _)]
  simp [hi]
end Go.Proofs.Ytcejbofdgljemaa
/-
  What the call awake of layer 6's statements answers: true. Condition: the package's table holds the sixty-four constants.
-/
namespace Go.Proofs.Ytcejbofdgljemaa
set_option maxRecDepth 100000
open Go.RowKit
set_option linter.unusedSimpArgs false
set_option linter.unusedVariables false

theorem conT_none : conT [] = [] := rfl
def mK : List UInt8 := [107]
def mM : List UInt8 := [109]
def mN : List UInt8 := [110]
theorem lenT_one : lenT [(mK, mM)] := fun x hx => by
  rw [List.mem_singleton.1 hx]
  exact ⟨by decide, by decide⟩
theorem mw_before [Inhabited Tab] : fitsE 2 [] (mK, mM) [0, 0, 0, 0, 0, 0, 0, 1] = false := by simp [fitsE]
theorem mw_right2 : rightE 2 [] = true := by decide +kernel
theorem mw_right1 : rightE 1 [] = true := by decide +kernel
theorem mw_terms : termsE 2 [] (mK, mM) = [(mK, mM)] := by decide +kernel
theorem mw_tag [Inhabited Tab] : bytesE 2 [] (mK, mM) = [0, 0, 0, 0, 0, 0, 0, 1] := by
  rw [bytesE, if_pos rfl]
  decide +kernel
theorem mw_fit [Inhabited Tab] : fitsE 2 [(mK, mM)] (mK, mM) [0, 0, 0, 0, 0, 0, 0, 1] = true := by
  have h : bytesE 2 [(mK, mM)] (mK, mM) = [0, 0, 0, 0, 0, 0, 0, 1] := by
    rw [bytesE, if_pos rfl]
    decide +kernel
  have h1 : rightE 2 [(mK, mM)] = true := by decide +kernel
  unfold fitsE
  rw [h, h1]
  simp
theorem mw_unfit [Inhabited Tab] : fitsE 2 [(mK, mM)] (mK, mN) [0, 0, 0, 0, 0, 0, 0, 1] = false := by
  have h : (mK, mN) ∉ [(mK, mM)] := by decide +kernel
  unfold fitsE
  simp [h]
theorem mw_right : rightE 2 [(mK, mM)] = true := by decide +kernel
theorem mw_made [Inhabited Tab] : fitsE 1 [] (mK, mM) (bytesE 1 [] (mK, mM)) = true := by
  rw [fitsE_made (K := 1) (cs := []) (ds := []) (mK, mM) _ mw_right1 (.inl rfl)]
  simp
theorem two_rdM (w : World) (a b : UInt8) : Rd vB ((w.alloc (.cells #[vB a] 5 (1, 2))).alloc (.cells #[vB b] 5 (1, 2))) (some ⟨w.heap.size, 0, none⟩) [a] ∧ Rd vB ((w.alloc (.cells #[vB a] 5 (1, 2))).alloc (.cells #[vB b] 5 (1, 2))) (some ⟨w.heap.size + 1, 0, none⟩) [b] ∧ Below w.heap.size w ((w.alloc (.cells #[vB a] 5 (1, 2))).alloc (.cells #[vB b] 5 (1, 2))) :=
  ⟨(Rd.new_fr w _ rfl _ _ _ _ rfl).keep (below_new (Below.refl _ _) _), Rd.new_fr _ _ (by simp) _ _ _ _ rfl, below_new (below_new (Below.refl _ _) _) _⟩
theorem okT_nil (w : World) : okT w [] := fun x hx => by cases hx

set_option maxRecDepth 100000 in
set_option maxHeartbeats 2000000 in
theorem awake6_any [Inhabited Tab] (w : World) (HK : Hid (KTab w)) : Calls Try.prog 5 #[] w fun e w' => e = .returned (.bool true) ∧ Below w.heap.size w w' := by
  go_enter Try.func5, Try.ntmps5
  go_wp2_with fail
  refine (newE_good 2 _ (.inr rfl)).mono ?_
  rintro e w1 ⟨A1, c1, rfl, hB⟩
  have HK1 := HK
  replace HK := Lib.hid (HK.out.keep hB)
  have HK0 := HK1
  have hg1w := hB.size
  have hR0 : Row (w1.alloc (.cells #[.int .i64 0, .slice none 0 0] 24)) w1.heap.size 24 [.int .i64 0, .slice none 0 0] := Row.new w1 _ _ _ rfl
  go_upto_region 2 with (refine wpList_store_row rfl 24 (.tmp 1) (.tmp 15) rfl w1.heap.size rfl [.int .i64 2, .slice A1 0 c1] rfl _ _ hR0 (by exact size_engine) rfl (one_pair _ _ rfl rfl) ?_)
  have hR1 := hR0.setRow [.int .i64 2, .slice A1 0 c1]
  have hbn : Below w1.heap.size w1 ((w1.alloc (.cells #[.int .i64 0, .slice none 0 0] 24)).setRow w1.heap.size [.int .i64 2, .slice A1 0 c1].toArray) := below_setRow (below_new (Below.refl _ _) _) (Nat.le_refl _) _
  generalize (w1.alloc (.cells #[.int .i64 0, .slice none 0 0] 24)).setRow w1.heap.size [.int .i64 2, .slice A1 0 c1].toArray = w2 at hR1 hbn ⊢
  replace HK := Lib.hid (HK.out.keep hbn)
  replace hB := below_step hB hbn
  clear hbn
  clear hR0
  generalize w1.heap.size = g1 at hR1 hg1w ⊢
  have hcv1 := Lib.run_convert_bytes_const (P := Try.prog) w2 25 5 #[.int .u8 107] 1 1 Try.underlying25 Try.underlying5
  have hcv2 := Joins.run_convert_bytes_const_at (P := Try.prog) (w2.alloc (.cells #[.int .u8 107] 5 (1, 2))) 25 5 #[.int .u8 109] 1 1 (w2.heap.size + 1) (by simp) Try.underlying25 Try.underlying5
  go_wp2_with (refine wpList_load_part rfl 24 (.tmp 1) rfl g1 0 rfl _ _ hR1 [.int .i64 2, .slice A1 0 c1] (by rfl) _ Try.underlying24 rfl (by exact size_engine) ?_)
  clear hcv1 hcv2
  obtain ⟨hk, hm, hbx⟩ := two_rdM w2 107 109
  have hbo := below_new (Below.refl _ ((w2.alloc (.cells #[vB 107] 5 (1, 2))).alloc (.cells #[vB 109] 5 (1, 2)))) (.cells #[.int .u8 0, .int .u8 0, .int .u8 0, .int .u8 0, .int .u8 0, .int .u8 0, .int .u8 0, .int .u8 1] 5)
  refine (fitsE_any 2 [] mK mM [0, 0, 0, 0, 0, 0, 0, 1] 0 1 1 8 A1 _ _ _ c1 _ _ _ _ (Lib.hid rfl) (Lib.hid lenT.nil) (Lib.hid rfl) (Lib.hid rfl) (Lib.hid rfl) RdT.nil (okT_nil _) (by exact hk.keep hbo) (by exact hm.keep hbo) (by exact Rd.new_at _ (w2.heap.size + 1 + 1) (by simp) _ _ _ rfl) (by omega) (by omega) (by omega) (by omega) (by omega) (by omega) (by omega) (by omega) (by exact Lib.hid (HK.out.keep (below_step hbx hbo)))).mono ?_
  rintro e w3 ⟨rfl, hb3⟩
  have hb := below_step (below_step hbx hbo) hb3
  clear hbx hbo hb3 hk hm
  rw [conT_none, mw_before]
  replace hR1 := hR1.later hb
  replace HK := Lib.hid (HK.out.keep hb)
  replace hB := below_step hB hb
  clear hb
  have hcv1 := Lib.run_convert_bytes_const (P := Try.prog) w3 25 5 #[.int .u8 107] 1 1 Try.underlying25 Try.underlying5
  have hcv2 := Joins.run_convert_bytes_const_at (P := Try.prog) (w3.alloc (.cells #[.int .u8 107] 5 (1, 2))) 25 5 #[.int .u8 109] 1 1 (w3.heap.size + 1) (by simp) Try.underlying25 Try.underlying5
  go_wp2_with (refine wpList_load_part rfl 24 (.tmp 1) rfl g1 0 rfl _ _ hR1 [.int .i64 2, .slice A1 0 c1] (by rfl) _ Try.underlying24 rfl (by exact size_engine) ?_)
  clear hcv1 hcv2
  obtain ⟨hk, hm, hbx⟩ := two_rdM w3 107 109
  refine (tagE_good 2 [] mK mM 0 1 1 A1 _ _ c1 _ _ _ (Lib.hid rfl) (Lib.hid lenT.nil) (Lib.hid rfl) (Lib.hid rfl) RdT.nil (okT_nil _) (by exact hk) (by exact hm) (by omega) (by omega) (by omega) (by omega) (by omega) (by omega) (Lib.hid mw_right2) (by exact Lib.hid (HK.out.keep hbx))).mono ?_
  rintro e w4 ⟨us, p, A2, c2, tA, tc, rfl, HP, hpc, htc, htu, hoku, HC, hrt, hb4⟩
  have hC : conT us = [(mK, mM)] := by rw [HC.out]; exact mw_terms
  have HLU : Hid (lenT (conT us)) := by unfold Hid; rw [hC]; exact lenT_one
  have hp : p = 1 := by rw [← HP.out, ← conT_length, hC]; rfl
  subst hp
  have hrt' : Rd vB w4 tA [0, 0, 0, 0, 0, 0, 0, 1] := by rw [← mw_tag]; exact hrt
  have hb := below_step hbx hb4
  clear hbx hb4 hk hm HC hrt
  replace hR1 := hR1.later hb
  replace HK := Lib.hid (HK.out.keep hb)
  replace hB := below_step hB hb
  clear hb
  have hg1 := hR1.lt
  go_upto_region 4 with (refine wpList_store_row rfl 24 (.tmp 1) (.tmp 31) rfl g1 rfl [.int .i64 2, .slice A2 1 c2] rfl _ _ hR1 (by exact size_engine) rfl (one_pair _ _ rfl rfl) ?_)
  have hbs : Below w.heap.size w (w4.setRow g1 [.int .i64 2, .slice A2 1 c2].toArray) := below_setRow hB hg1w _
  have hbs2 : Below g1 w4 (w4.setRow g1 [.int .i64 2, .slice A2 1 c2].toArray) := below_setRow (Below.refl _ _) (Nat.le_refl _) _
  have hnb := two_no_byte 2 (.slice A1 0 c1) (slice_no_byte A1 0 c1)
  replace htu := htu.setRow_row hR1 [.int .i64 2, .slice A2 1 c2].toArray
  replace hoku := hoku.setRow_row hR1 hnb [.int .i64 2, .slice A2 1 c2].toArray
  replace hrt' := hrt'.setRow_row hR1 hnb [.int .i64 2, .slice A2 1 c2].toArray
  replace HK := Lib.hid (HK0.out.keep hbs)
  replace hR1 := hR1.setRow [.int .i64 2, .slice A2 1 c2]
  replace hB := hbs
  clear hbs hbs2 hnb
  generalize w4.setRow g1 [.int .i64 2, .slice A2 1 c2].toArray = w5 at htu hoku hrt' HK hR1 hB ⊢
  go_wp2_with fail
  refine (newE_good 1 _ (.inl rfl)).mono ?_
  rintro e w6 ⟨A3, c3, rfl, hb⟩
  replace htu := htu.keep hb
  replace hoku := hoku.keep hb
  replace hrt' := hrt'.keep hb
  replace hR1 := hR1.later hb
  replace HK := Lib.hid (HK.out.keep hb)
  replace hB := below_step hB hb
  clear hb
  clear hg1
  have hR0 : Row (w6.alloc (.cells #[.int .i64 0, .slice none 0 0] 24)) w6.heap.size 24 [.int .i64 0, .slice none 0 0] := Row.new w6 _ _ _ rfl
  go_upto_region 5 with (refine wpList_store_row rfl 24 (.tmp 6) (.tmp 36) rfl w6.heap.size rfl [.int .i64 1, .slice A3 0 c3] rfl _ _ hR0 (by exact size_engine) rfl (one_pair _ _ rfl rfl) ?_)
  have hR6 := hR0.setRow [.int .i64 1, .slice A3 0 c3]
  have hbn : Below w6.heap.size w6 ((w6.alloc (.cells #[.int .i64 0, .slice none 0 0] 24)).setRow w6.heap.size [.int .i64 1, .slice A3 0 c3].toArray) := below_setRow (below_new (Below.refl _ _) _) (Nat.le_refl _) _
  generalize (w6.alloc (.cells #[.int .i64 0, .slice none 0 0] 24)).setRow w6.heap.size [.int .i64 1, .slice A3 0 c3].toArray = w7 at hR6 hbn ⊢
  replace htu := htu.keep hbn
  replace hoku := hoku.keep hbn
  replace hrt' := hrt'.keep hbn
  replace hR1 := hR1.later hbn
  replace HK := Lib.hid (HK.out.keep hbn)
  replace hB := below_step hB hbn
  clear hbn
  clear hR0
  generalize w6.heap.size = g6 at hR6 ⊢
  have hcv1 := Lib.run_convert_bytes_const (P := Try.prog) w7 25 5 #[.int .u8 107] 1 1 Try.underlying25 Try.underlying5
  have hcv2 := Joins.run_convert_bytes_const_at (P := Try.prog) (w7.alloc (.cells #[.int .u8 107] 5 (1, 2))) 25 5 #[.int .u8 109] 1 1 (w7.heap.size + 1) (by simp) Try.underlying25 Try.underlying5
  go_wp2_with (refine wpList_load_part rfl 24 (.tmp 6) rfl g6 0 rfl _ _ hR6 [.int .i64 1, .slice A3 0 c3] (by rfl) _ Try.underlying24 rfl (by exact size_engine) ?_)
  clear hcv1 hcv2
  obtain ⟨hk, hm, hbx⟩ := two_rdM w7 107 109
  refine (tagE_good 1 [] mK mM 0 1 1 A3 _ _ c3 _ _ _ (Lib.hid rfl) (Lib.hid lenT.nil) (Lib.hid rfl) (Lib.hid rfl) RdT.nil (okT_nil _) (by exact hk) (by exact hm) (by omega) (by omega) (by omega) (by omega) (by omega) (by omega) (Lib.hid mw_right1) (by exact Lib.hid (HK.out.keep hbx))).mono ?_
  rintro e w8 ⟨vs, q, A4, c4, tB, td, rfl, HQ, hqc, htd, htv, hokv, HD, hrd, hb8⟩
  have hb := below_step hbx hb8
  clear hbx hb8 hk hm HD HQ htv hokv
  replace htu := htu.keep hb
  replace hoku := hoku.keep hb
  replace hrt' := hrt'.keep hb
  replace hR1 := hR1.later hb
  replace hR6 := hR6.later hb
  replace HK := Lib.hid (HK.out.keep hb)
  replace hB := below_step hB hb
  clear hb
  have hR0 : Row (w8.alloc (.cells #[.int .i64 0, .slice none 0 0] 24)) w8.heap.size 24 [.int .i64 0, .slice none 0 0] := Row.new w8 _ _ _ rfl
  go_upto_region 6 with (refine wpList_store_row rfl 24 (.tmp 8) (.tmp 45) rfl w8.heap.size rfl [.int .i64 1, .slice A4 q c4] rfl _ _ hR0 (by exact size_engine) rfl (one_pair _ _ rfl rfl) ?_)
  have hR8 := hR0.setRow [.int .i64 1, .slice A4 q c4]
  have hbn : Below w8.heap.size w8 ((w8.alloc (.cells #[.int .i64 0, .slice none 0 0] 24)).setRow w8.heap.size [.int .i64 1, .slice A4 q c4].toArray) := below_setRow (below_new (Below.refl _ _) _) (Nat.le_refl _) _
  generalize (w8.alloc (.cells #[.int .i64 0, .slice none 0 0] 24)).setRow w8.heap.size [.int .i64 1, .slice A4 q c4].toArray = w9 at hR8 hbn ⊢
  replace htu := htu.keep hbn
  replace hoku := hoku.keep hbn
  replace hrt' := hrt'.keep hbn
  replace hrd := hrd.keep hbn
  replace hR1 := hR1.later hbn
  replace hR6 := hR6.later hbn
  replace HK := Lib.hid (HK.out.keep hbn)
  replace hB := below_step hB hbn
  clear hbn
  clear hR0 hR8
  go_wp2_with fail
  refine (newE_bad 3 _ (by decide) (by decide)).mono ?_
  rintro e w10 ⟨A5, c5, rfl, hb⟩
  replace htu := htu.keep hb
  replace hoku := hoku.keep hb
  replace hrt' := hrt'.keep hb
  replace hrd := hrd.keep hb
  replace hR1 := hR1.later hb
  replace hR6 := hR6.later hb
  replace HK := Lib.hid (HK.out.keep hb)
  replace hB := below_step hB hb
  clear hb
  have hR0 : Row (w10.alloc (.cells #[.int .i64 0, .slice none 0 0] 24)) w10.heap.size 24 [.int .i64 0, .slice none 0 0] := Row.new w10 _ _ _ rfl
  have z1 : (w10.alloc (.cells #[.int .i64 0, .slice none 0 0] 24)).setRow w10.heap.size [.int .i64 0, .slice A5 0 c5].toArray = (w10.alloc (.cells #[.int .i64 0, .slice none 0 0] 24)).setRow w10.heap.size [.int .i64 0, .slice A5 0 c5].toArray := rfl
  have hbn : Below w10.heap.size w10 ((w10.alloc (.cells #[.int .i64 0, .slice none 0 0] 24)).setRow w10.heap.size [.int .i64 0, .slice A5 0 c5].toArray) := below_setRow (below_new (Below.refl _ _) _) (Nat.le_refl _) _
  replace htu := htu.keep hbn
  replace hoku := hoku.keep hbn
  replace hrt' := hrt'.keep hbn
  replace hrd := hrd.keep hbn
  replace hR1 := hR1.later hbn
  replace hR6 := hR6.later hbn
  replace HK := Lib.hid (HK.out.keep hbn)
  replace hB := below_step hB hbn
  obtain ⟨W, hW⟩ : ∃ W, W = (w10.alloc (.cells #[.int .i64 0, .slice none 0 0] 24)).setRow w10.heap.size [.int .i64 0, .slice A5 0 c5].toArray := ⟨_, rfl⟩
  rw [← hW] at htu hoku hrt' hrd HK hR1 hR6 hB
  have c0 : W.cell? ⟨g1, 0, none⟩ = some (.int .i64 2) := hR1.cell rfl
  have c1' : W.cell? ⟨g1, 1, none⟩ = some (.slice A2 1 c2) := hR1.cell rfl
  clear hbn z1
  have hcv1 := Lib.run_convert_bytes_const (P := Try.prog) W 25 5 #[.int .u8 107] 1 1 Try.underlying25 Try.underlying5
  have hcv2 := Joins.run_convert_bytes_const_at (P := Try.prog) (W.alloc (.cells #[.int .u8 107] 5 (1, 2))) 25 5 #[.int .u8 109] 1 1 (W.heap.size + 1) (by simp) Try.underlying25 Try.underlying5
  go_wp2_with (refine wpList_store_row rfl 24 (.tmp 11) (.tmp 50) rfl w10.heap.size rfl [.int .i64 0, .slice A5 0 c5] rfl _ _ hR0 (by exact size_engine) rfl (one_pair _ _ rfl rfl) ?_; rw [← hW]; clear hW hR0)
  clear hcv1 hcv2
  obtain ⟨hk, hm, hbx⟩ := two_rdM W 107 109
  refine (fitsE_any 2 us mK mM [0, 0, 0, 0, 0, 0, 0, 1] 1 1 1 8 A2 _ _ tA c2 _ _ tc _ HP HLU (Lib.hid rfl) (Lib.hid rfl) (Lib.hid rfl) (htu.keep hbx) (hoku.keep hbx) (by exact hk) (by exact hm) (hrt'.keep hbx) (by omega) hpc (by omega) (by omega) (by omega) (by omega) (by omega) htc (by exact Lib.hid (HK.out.keep hbx))).mono ?_
  rintro e w11 ⟨rfl, hb11⟩
  rw [hC, mw_fit]
  have hb := below_step hbx hb11
  clear hbx hb11 hk hm c0 c1'
  replace htu := htu.keep hb
  replace hoku := hoku.keep hb
  replace hrt' := hrt'.keep hb
  replace hrd := hrd.keep hb
  replace hR1 := hR1.later hb
  replace hR6 := hR6.later hb
  replace HK := Lib.hid (HK.out.keep hb)
  replace hB := below_step hB hb
  clear hb
  have c0 : w11.cell? ⟨g1, 0, none⟩ = some (.int .i64 2) := hR1.cell rfl
  have c1' : w11.cell? ⟨g1, 1, none⟩ = some (.slice A2 1 c2) := hR1.cell rfl
  have hcv1 := Lib.run_convert_bytes_const (P := Try.prog) w11 25 5 #[.int .u8 107] 1 1 Try.underlying25 Try.underlying5
  have hcv2 := Joins.run_convert_bytes_const_at (P := Try.prog) (w11.alloc (.cells #[.int .u8 107] 5 (1, 2))) 25 5 #[.int .u8 110] 1 1 (w11.heap.size + 1) (by simp) Try.underlying25 Try.underlying5
  go_wp2_with fail
  clear hcv1 hcv2
  obtain ⟨hk, hm, hbx⟩ := two_rdM w11 107 110
  refine (fitsE_any 2 us mK mN [0, 0, 0, 0, 0, 0, 0, 1] 1 1 1 8 A2 _ _ tA c2 _ _ tc _ HP HLU (Lib.hid rfl) (Lib.hid rfl) (Lib.hid rfl) (htu.keep hbx) (hoku.keep hbx) (by exact hk) (by exact hm) (hrt'.keep hbx) (by omega) hpc (by omega) (by omega) (by omega) (by omega) (by omega) htc (by exact Lib.hid (HK.out.keep hbx))).mono ?_
  rintro e w12 ⟨rfl, hb11⟩
  rw [hC, mw_unfit]
  have hb := below_step hbx hb11
  clear hbx hb11 hk hm c0 c1'
  replace htu := htu.keep hb
  replace hoku := hoku.keep hb
  replace hrt' := hrt'.keep hb
  replace hrd := hrd.keep hb
  replace hR1 := hR1.later hb
  replace hR6 := hR6.later hb
  replace HK := Lib.hid (HK.out.keep hb)
  replace hB := below_step hB hb
  clear hb
  have c0 : w12.cell? ⟨g6, 0, none⟩ = some (.int .i64 1) := hR6.cell rfl
  have c1' : w12.cell? ⟨g6, 1, none⟩ = some (.slice A3 0 c3) := hR6.cell rfl
  have hcv1 := Lib.run_convert_bytes_const (P := Try.prog) w12 25 5 #[.int .u8 107] 1 1 Try.underlying25 Try.underlying5
  have hcv2 := Joins.run_convert_bytes_const_at (P := Try.prog) (w12.alloc (.cells #[.int .u8 107] 5 (1, 2))) 25 5 #[.int .u8 109] 1 1 (w12.heap.size + 1) (by simp) Try.underlying25 Try.underlying5
  go_wp2_with fail
  clear hcv1 hcv2
  obtain ⟨hk, hm, hbx⟩ := two_rdM w12 107 109
  have H8 : Hid ((bytesE 1 [] (mK, mM)).length = 8) := bytesE_length _ _ _
  refine (fitsE_any 1 [] mK mM (bytesE 1 [] (mK, mM)) 0 1 1 8 A3 _ _ tB c3 _ _ td _ (Lib.hid rfl) (Lib.hid lenT.nil) (Lib.hid rfl) (Lib.hid rfl) H8 RdT.nil (okT_nil _) (by exact hk) (by exact hm) (hrd.keep hbx) (by omega) (by omega) (by omega) (by omega) (by omega) (by omega) (by omega) htd (by exact Lib.hid (HK.out.keep hbx))).mono ?_
  rintro e w13 ⟨rfl, hb11⟩
  rw [conT_none, mw_made]
  have hb := below_step hbx hb11
  clear hbx hb11 hk hm c0 c1'
  replace htu := htu.keep hb
  replace hoku := hoku.keep hb
  replace hrt' := hrt'.keep hb
  replace hrd := hrd.keep hb
  replace hR1 := hR1.later hb
  replace hR6 := hR6.later hb
  replace HK := Lib.hid (HK.out.keep hb)
  replace hB := below_step hB hb
  clear hb
  have c0 : w13.cell? ⟨g1, 0, none⟩ = some (.int .i64 2) := hR1.cell rfl
  have c1' : w13.cell? ⟨g1, 1, none⟩ = some (.slice A2 1 c2) := hR1.cell rfl
  go_wp2_with fail
  refine (rightE_any 2 us 1 A2 c2 _ HP HLU htu hoku (by omega) hpc).mono ?_
  rintro e w14 ⟨rfl, hb⟩
  rw [hC, mw_right]
  go_wp2_with fail
  go_ret
  exact ⟨rfl, below_step hB hb⟩
end Go.Proofs.Ytcejbofdgljemaa
/-
  What comes in at the laws of layer 6. No conditions but those typed.
-/
namespace Go.Proofs.Ytcejbofdgljemaa
set_option maxRecDepth 100000
open Go.RowKit

/-- What comes in: terms in memory, whose bytes are there, no longer than may be. -/
def inE (w : World) (A : Option Addr) (ts : List TD) : Prop := RdT w A ts ∧ okT w ts ∧ ∀ x ∈ ts, x.k.length ≤ 9223372036854775807 ∧ x.m.length ≤ 9223372036854775807
theorem inE.keep {w w' : World} {A : Option Addr} {ts : List TD} (h : inE w A ts) (hb : Below w.heap.size w w') : inE w' A ts := ⟨h.1.keep hb, h.2.1.keep hb, h.2.2⟩
theorem short_le {ts : List TD} {p : Nat} (HP : Hid (ts.length = p)) (HS : Hid (shortT (conT ts) = true)) : p ≤ 400 := by
  have := HS.out
  unfold shortT at this
  rw [decide_eq_true_eq, conT_length, HP.out] at this
  exact this.1
theorem conj {a b : Prop} (x : a) (y : b) : a ∧ b := ⟨x, y⟩
theorem termsE_lenT {K : Int} {cs : List Tm} {key msg : List UInt8} (h : lenT cs) (hk : key.length ≤ 1000000000) (hm : msg.length ≤ 1000000000) : lenT (termsE K cs (key, msg)) := by
  unfold termsE
  split
  · exact h.put hk hm
  · exact h
end Go.Proofs.Ytcejbofdgljemaa
/-
  The walk of the law MacSymbolic: by a Symbolic engine a tag that fits one text and key fits no other; what was never made fits nothing. Condition: the package's table holds the sixty-four constants.
-/
namespace Go.Proofs.Ytcejbofdgljemaa
set_option maxRecDepth 100000
open Go.RowKit
set_option linter.unusedSimpArgs false
set_option linter.unusedVariables false

def MadeRel (cs : List Tm) (x : Tm) (w : World) (v i : Value) (wr : World) : Prop :=
  ∃ k : Nat, k ≤ cs.length ∧ i = .int .i64 (k : Int) ∧ v = .bool (decide (x ∈ cs.take k)) ∧ Below w.heap.size w wr
theorem made_next (cs : List Tm) (x : Tm) (k : Nat) (hk : k < cs.length) : decide (x ∈ cs.take (k + 1)) = (decide (x ∈ cs.take k) || decide (cs[k] = x)) := by
  rw [List.take_succ_eq_append_getElem hk]
  by_cases h1 : x ∈ cs.take k
  · rw [decide_eq_true (List.mem_append_left _ h1), decide_eq_true h1]
    rfl
  · by_cases h2 : cs[k] = x
    · rw [decide_eq_true (List.mem_append_right _ (by rw [h2]; exact List.mem_singleton.2 rfl)), decide_eq_true h2, Bool.or_true]
    · rw [decide_eq_false h1, decide_eq_false h2, decide_eq_false]
      · rfl
      · intro h
        rcases List.mem_append.1 h with h | h
        · exact h1 h
        · exact h2 (List.mem_singleton.1 h).symm

set_option maxRecDepth 100000 in
set_option maxHeartbeats 4000000 in
theorem macsymbolic_core [Inhabited Tab] (ts : List TD) (k1 t1 k2 t2 tag : List UInt8) (p n1 m1 n2 m2 q : Nat) (A B1 C1 B2 C2 D : Option Addr) (c d1 e1 d2 e2 f : Nat) (w : World) (HP : Hid (ts.length = p)) (HN1 : Hid (k1.length = n1)) (HM1 : Hid (t1.length = m1)) (HN2 : Hid (k2.length = n2)) (HM2 : Hid (t2.length = m2)) (HQ : Hid (tag.length = q))
    (ht : inE w A ts) (hk1 : Rd vB w B1 k1) (hm1 : Rd vB w C1 t1) (hk2 : Rd vB w B2 k2) (hm2 : Rd vB w C2 t2) (hg : Rd vB w D tag) (hpc : p ≤ c) (hd1 : n1 ≤ d1) (he1 : m1 ≤ e1) (hd2 : n2 ≤ d2) (he2 : m2 ≤ e2) (hqf : q ≤ f)
    (hn1 : n1 ≤ 2000) (hmm1 : m1 ≤ 2000) (hn2 : n2 ≤ 2000) (hmm2 : m2 ≤ 2000) (hq : q ≤ 2000) (HS : Hid (shortT (conT ts) = true)) (HK : Hid (KTab w)) :
    Calls Try.prog 4 #[.slice A p c, .slice B1 n1 d1, .slice C1 m1 e1, .slice B2 n2 d2, .slice C2 m2 e2, .slice D q f] w fun e w' => e = .returned (.bool true) ∧ Below w.heap.size w w' := by
  have hp : p ≤ 400 := short_le HP HS
  have HLT : Hid (lenT (conT ts)) := lenT.short HS.out
  have g0 : decide ((2000 : Int) < (n1 : Int)) = false := by simp; omega
  have n0 : ¬ 2000 < n1 := by omega
  have g1 : decide ((2000 : Int) < (m1 : Int)) = false := by simp; omega
  have n1_ : ¬ 2000 < m1 := by omega
  have g2 : decide ((2000 : Int) < (n2 : Int)) = false := by simp; omega
  have n2_ : ¬ 2000 < n2 := by omega
  have g3 : decide ((2000 : Int) < (m2 : Int)) = false := by simp; omega
  have n3_ : ¬ 2000 < m2 := by omega
  have g4 : decide ((2000 : Int) < (q : Int)) = false := by simp; omega
  have n4_ : ¬ 2000 < q := by omega
  go_enter Try.func4, Try.ntmps4
  go_wp2_with fail
  refine (awake6_any _ HK).mono ?_
  rintro e' w2 ⟨rfl, hB⟩
  replace ht := ht.keep hB
  replace hk1 := hk1.keep hB
  replace hm1 := hm1.keep hB
  replace hk2 := hk2.keep hB
  replace hm2 := hm2.keep hB
  replace hg := hg.keep hB
  replace HK := Lib.hid (HK.out.keep hB)
  go_wp2_with fail
  refine (refshort_any ts p A c _ HP ht.1 ht.2.2 (by omega)).mono ?_
  rintro e' w3 ⟨rfl, rfl⟩
  rw [HS.out]
  go_upto_region 5 with fail
  clear g0 g1 g2 g3 g4 n0 n1_ n2_ n3_ n4_
  have hR0 : Row (w2.alloc (.cells #[.int .i64 0, .slice none 0 0] 24)) w2.heap.size 24 [.int .i64 0, .slice none 0 0] := Row.new w2 _ _ _ rfl
  go_upto_region 6 with (refine wpList_store_row rfl 24 (.tmp 13) (.tmp 48) rfl w2.heap.size rfl [.int .i64 2, .slice A p c] rfl _ _ hR0 (by exact size_engine) rfl (one_pair _ _ rfl rfl) ?_)
  have hR := hR0.setRow [.int .i64 2, .slice A p c]
  have hbn : Below w2.heap.size w2 ((w2.alloc (.cells #[.int .i64 0, .slice none 0 0] 24)).setRow w2.heap.size [.int .i64 2, .slice A p c].toArray) := below_setRow (below_new (Below.refl _ _) _) (Nat.le_refl _) _
  generalize (w2.alloc (.cells #[.int .i64 0, .slice none 0 0] 24)).setRow w2.heap.size [.int .i64 2, .slice A p c].toArray = w4 at hR hbn ⊢
  replace ht := ht.keep hbn
  replace hk1 := hk1.keep hbn
  replace hm1 := hm1.keep hbn
  replace hk2 := hk2.keep hbn
  replace hm2 := hm2.keep hbn
  replace hg := hg.keep hbn
  replace HK := Lib.hid (HK.out.keep hbn)
  replace hB := below_step hB hbn
  clear hbn
  clear hR0
  generalize w2.heap.size = g0 at hR ⊢
  go_wp2_with (refine wpList_load_part rfl 24 (.tmp 13) rfl g0 0 rfl _ _ hR [.int .i64 2, .slice A p c] (by rfl) _ Try.underlying24 rfl (by exact size_engine) ?_)
  refine (rightE_any 2 ts p A c _ HP HLT ht.1 ht.2.1 (by omega) hpc).mono ?_
  rintro e' w5 ⟨rfl, hb⟩
  replace ht := ht.keep hb
  replace hk1 := hk1.keep hb
  replace hm1 := hm1.keep hb
  replace hk2 := hk2.keep hb
  replace hm2 := hm2.keep hb
  replace hg := hg.keep hb
  replace hR := hR.later hb
  replace HK := Lib.hid (HK.out.keep hb)
  replace hB := below_step hB hb
  clear hb
  obtain ⟨r, hr⟩ : ∃ r, rightE 2 (conT ts) = r := ⟨_, rfl⟩
  have HRR := Lib.hid hr
  rw [hr]
  cases r with
  | false =>
    have HF : Hid (fitsE 2 (conT ts) (k1, t1) tag = false) := fitsE_wrong _ _ hr
    clear hr
    go_wp2_with (refine wpList_load_part rfl 24 (.tmp 13) rfl g0 0 rfl _ _ hR [.int .i64 2, .slice A p c] (by rfl) _ Try.underlying24 rfl (by exact size_engine) ?_)
    refine (fitsE_any 2 ts k1 t1 tag p n1 m1 q A B1 C1 D c d1 e1 f _ HP HLT HN1 HM1 HQ ht.1 ht.2.1 hk1 hm1 hg (by omega) hpc (by omega) (by omega) (by omega) hd1 he1 hqf HK).mono ?_
    rintro e' w6 ⟨rfl, hb⟩
    rw [HF.out]
    go_wp2_with fail
    go_ret
    exact ⟨rfl, below_step hB hb⟩
  | true =>
    clear hr
    obtain ⟨sm, hsm⟩ : ∃ sm, sm = decide ((k1, t1) = (k2, t2)) := ⟨_, rfl⟩
    have HSM := Lib.hid hsm
    go_upto_region 8 with fail
    go_cut [14] (fun v wx => v = .bool sm ∧ w5 = wx)
    case first =>
      have s0 : (convert 25 9 (.slice B1 n1 d1)).run Try.prog w5 = .ok (.string (strL k1)) w5 := run_str _ _ _ _ Try.underlying25 Try.underlying5 Try.underlying9 _ k1 n1 d1 HN1.out hk1
      have s1 : (convert 25 9 (.slice B2 n2 d2)).run Try.prog w5 = .ok (.string (strL k2)) w5 := run_str _ _ _ _ Try.underlying25 Try.underlying5 Try.underlying9 _ k2 n2 d2 HN2.out hk2
      have s2 : (convert 25 9 (.slice C1 m1 e1)).run Try.prog w5 = .ok (.string (strL t1)) w5 := run_str _ _ _ _ Try.underlying25 Try.underlying5 Try.underlying9 _ t1 m1 e1 HM1.out hm1
      have s3 : (convert 25 9 (.slice C2 m2 e2)).run Try.prog w5 = .ok (.string (strL t2)) w5 := run_str _ _ _ _ Try.underlying25 Try.underlying5 Try.underlying9 _ t2 m2 e2 HM2.out hm2
      have b0 := str_beq k1 k2
      have b1 := str_beq t1 t2
      clear ht hk1 hm1 hk2 hm2 hg HK hR HSM
      by_cases ek : k1 = k2
      · have x0 : decide (k1 = k2) = true := by simp [ek]
        have hsm' : sm = decide (t1 = t2) := by rw [hsm]; simp [ek]
        rw [x0] at b0
        clear hsm x0 ek
        generalize decide (t1 = t2) = y at b1 hsm'
        subst hsm'
        generalize strL k1 = S0 at b0 s0
        generalize strL k2 = S1 at b0 s1
        generalize strL t1 = S2 at b1 s2
        generalize strL t2 = S3 at b1 s3
        go_wp2_with fail
        go_meet
        case rel => exact ⟨rfl, rfl⟩
      · have x0 : decide (k1 = k2) = false := by simp [ek]
        have hsm' : sm = false := by rw [hsm]; simp [ek]
        rw [x0] at b0
        clear hsm x0 ek b1
        subst hsm'
        generalize strL k1 = S0 at b0 s0
        generalize strL k2 = S1 at b0 s1
        go_wp2_with fail
        go_meet
        case rel => exact ⟨rfl, rfl⟩
    case rest =>
    obtain ⟨rfl, rfl⟩ := hcut
    clear hsm
    have hONE : fitsE 2 (conT ts) (k1, t1) tag = true → fitsE 2 (conT ts) (k2, t2) tag = true → sm = true := fun h1 h2 => by
      rw [HSM.out]
      exact decide_eq_true (fitsE_one (k1, t1) (k2, t2) tag (by rw [conT_length, HP.out]; omega) h1 h2)
    obtain ⟨F1, hF1⟩ : ∃ F, fitsE 2 (conT ts) (k1, t1) tag = F := ⟨_, rfl⟩
    obtain ⟨F2, hF2⟩ : ∃ F, fitsE 2 (conT ts) (k2, t2) tag = F := ⟨_, rfl⟩
    have HF1 := Lib.hid hF1
    have HF2 := Lib.hid hF2
    rw [hF1, hF2] at hONE
    clear hF1 hF2
    go_upto_region 9 with fail
    go_cut [85] (fun v wx => v = .bool false ∧ Below w5.heap.size w5 wx)
    case first =>
      cases F1 with
      | false =>
        go_wp2_with (refine wpList_load_part rfl 24 (.tmp 13) rfl g0 0 rfl _ _ hR [.int .i64 2, .slice A p c] (by rfl) _ Try.underlying24 rfl (by exact size_engine) ?_)
        refine (fitsE_any 2 ts k1 t1 tag p n1 m1 q A B1 C1 D c d1 e1 f _ HP HLT HN1 HM1 HQ ht.1 ht.2.1 hk1 hm1 hg (by omega) hpc (by omega) (by omega) (by omega) hd1 he1 hqf HK).mono ?_
        rintro e' w6 ⟨rfl, hb⟩
        rw [HF1.out]
        clear ht hk1 hm1 hk2 hm2 hg HK hR hONE HF1 HF2 HSM
        go_wp2_with fail
        go_meet
        case rel => exact ⟨rfl, hb⟩
      | true =>
        go_wp2_with (refine wpList_load_part rfl 24 (.tmp 13) rfl g0 0 rfl _ _ hR [.int .i64 2, .slice A p c] (by rfl) _ Try.underlying24 rfl (by exact size_engine) ?_)
        refine (fitsE_any 2 ts k1 t1 tag p n1 m1 q A B1 C1 D c d1 e1 f _ HP HLT HN1 HM1 HQ ht.1 ht.2.1 hk1 hm1 hg (by omega) hpc (by omega) (by omega) (by omega) hd1 he1 hqf HK).mono ?_
        rintro e' w6 ⟨rfl, hb⟩
        rw [HF1.out]
        have c0 : w6.cell? ⟨g0, 0, none⟩ = some (.int .i64 2) := (hR.later hb).cell rfl
        have c1 : w6.cell? ⟨g0, 1, none⟩ = some (.slice A p c) := (hR.later hb).cell rfl
        go_wp2_with fail
        refine (fitsE_any 2 ts k2 t2 tag p n2 m2 q A B2 C2 D c d2 e2 f _ HP HLT HN2 HM2 HQ (ht.1.keep hb) (ht.2.1.keep hb) (hk2.keep hb) (hm2.keep hb) (hg.keep hb) (by omega) hpc (by omega) (by omega) (by omega) hd2 he2 hqf (Lib.hid (HK.out.keep hb))).mono ?_
        rintro e' w7 ⟨rfl, hb2⟩
        rw [HF2.out]
        have hb3 := below_step hb hb2
        clear ht hk1 hm1 hk2 hm2 hg HK hR HF1 HF2 HSM c0 c1 hb hb2
        cases F2 with
        | false =>
          go_wp2_with fail
          go_meet
          case rel => exact ⟨rfl, hb3⟩
        | true =>
          have hs : sm = true := hONE (by simp) (by simp)
          clear hONE
          subst hs
          go_wp2_with fail
          go_meet
          case rel => exact ⟨rfl, hb3⟩
    case rest =>
    obtain ⟨rfl, hb⟩ := hcut
    clear hONE HF1 HF2 HSM hk2 hm2
    replace ht := ht.keep hb
    replace hk1 := hk1.keep hb
    replace hm1 := hm1.keep hb
    replace hg := hg.keep hb
    replace hR := hR.later hb
    replace HK := Lib.hid (HK.out.keep hb)
    replace hB := below_step hB hb
    clear hb
    have HOK := Lib.hid ht.2.1
    have htr := ht.1
    have HT := Lib.hid ht
    clear ht
    go_wp2_with fail
    go_loopw [15, 16] (fun v i wr => MadeRel (conT ts) (k1, t1) wc v i wr) (fun _ i _ => ts.length - (intOf i).toNat)
    case atStart => exact ⟨0, Nat.zero_le _, rfl, by simp, Below.refl _ _⟩
    case round =>
      obtain ⟨k, hk0, rfl, rfl, hBk⟩ := hrel
      by_cases hlt : k < ts.length
      · obtain ⟨blk, o, rfl, hblk, hcell⟩ := htr.at hlt
        have hx := HOK.out ts[k] (List.getElem_mem hlt)
        have hgx := conT_get ts k hlt
        have hlc : k < (conT ts).length := by rw [conT_length]; exact hlt
        have HNX := Lib.hid (made_next (conT ts) (k1, t1) k hlc)
        obtain ⟨h0, h1⟩ := hcell k hlt
        have hc0 : ∀ W, Below wr.heap.size wr W → W.cell? ⟨blk, o + k * 2, none⟩ = some ts[k].at0 := fun W hW => ((below_step hBk hW).cell (p := ⟨blk, o + k * 2, none⟩) hblk).trans h0
        have hc1 : ∀ W, Below wr.heap.size wr W → W.cell? ⟨blk, o + k * 2 + 1, none⟩ = some ts[k].at1 := fun W hW => ((below_step hBk hW).cell (p := ⟨blk, o + k * 2 + 1, none⟩) hblk).trans h1
        have HEQ : Hid (decide ((k1, t1) ∈ (conT ts).take (k + 1)) = (decide ((k1, t1) ∈ (conT ts).take k) || decide (ts[k].c = (k1, t1)))) := by
          have := HNX.out
          rw [hgx] at this
          exact this
        clear HNX hgx h0 h1 hcell
        generalize ts[k] = x at hx hc0 hc1 HEQ
        obtain ⟨kA, kc, kl, mA, mc, ml⟩ := x
        obtain ⟨_, _, hkl, hml⟩ := hx
        unfold TD.at0 TD.at1 at *
        unfold TD.c at HEQ
        dsimp only at hkl hml HEQ hc0 hc1
        have i0 : (0 : Int) ≤ (k : Int) := by omega
        have hpl : ts.length = p := HP.out
        have i1 : (k : Int) < (p : Int) := by omega
        have hs0 : ∀ W, Below wr.heap.size wr W → (convert 25 9 (.slice kA kl.length kc)).run Try.prog W = .ok (.string (strL kl)) W := run_str_later Try.underlying25 Try.underlying5 Try.underlying9 (hkl.keep hBk)
        have hs1 : ∀ W, Below wr.heap.size wr W → (convert 25 9 (.slice B1 n1 d1)).run Try.prog W = .ok (.string (strL k1)) W := by rw [← HN1.out]; exact run_str_later Try.underlying25 Try.underlying5 Try.underlying9 (hk1.keep hBk)
        have hs2 : ∀ W, Below wr.heap.size wr W → (convert 25 9 (.slice mA ml.length mc)).run Try.prog W = .ok (.string (strL ml)) W := run_str_later Try.underlying25 Try.underlying5 Try.underlying9 (hml.keep hBk)
        have hs3 : ∀ W, Below wr.heap.size wr W → (convert 25 9 (.slice C1 m1 e1)).run Try.prog W = .ok (.string (strL t1)) W := by rw [← HM1.out]; exact run_str_later Try.underlying25 Try.underlying5 Try.underlying9 (hm1.keep hBk)
        have b0 := str_beq kl k1
        have b1 := str_beq ml t1
        have hBase : Below wr.heap.size wr wr.drew := (Below.refl _ _).drew
        have HREL : Hid (∀ v, v = decide ((k1, t1) ∈ (conT ts).take (k + 1)) → MadeRel (conT ts) (k1, t1) wc (.bool v) (.int .i64 ((k : Int) + 1)) wr.drew) := fun v hv => ⟨k + 1, hlc, by go_num, by rw [hv], hBk.drew⟩
        obtain ⟨md, hmd⟩ : ∃ md, md = decide ((k1, t1) ∈ (conT ts).take k) := ⟨_, rfl⟩
        rw [← hmd] at HEQ ⊢
        clear hmd hkl hml hk1 hm1 htr hlc hk0 hBk
        cases md with
        | true =>
          have HV : Hid (true = decide ((k1, t1) ∈ (conT ts).take (k + 1))) := by unfold Hid; rw [HEQ.out]; simp
          clear HEQ hs0 hs1 hs2 hs3 b0 b1 hc0 hc1
          go_wp2_with fail
          refine wp_region_plan (.step 0 false (.step 1 false (.step 2 false (.step 3 false (.step 4 false (.step 5 false (.step 6 false (.step 7 false (.step 8 false (.step 9 false (.step 10 false (.step 11 false (.step 12 false (.step 13 false (.step 14 false (.step 15 false (.step 16 false (.step 17 false (.step 18 false (.step 19 false (.step 20 false (.step 21 false (.step 22 false (.step 23 false (.nil))))))))))))))))))))))))) (by kernel_rfl) (by kernel_rfl) (by rfl) (by kernel_rfl) ?_
          iterate 2 (refine plan_read rfl (by rfl) (v := ?_) ?_ ?_; rotate_left 1; (intro W hW; have hW0 := below_step hBase hW; (try dsimp only at hW); go_simp <;> with_reducible rfl); simp only [List.getElem_toArray, List.getElem_cons_zero, List.getElem_cons_succ, Act.put, List.setIfInBounds_toArray, List.set_cons_zero, List.set_cons_succ])
          iterate 20 (refine plan_skip rfl (by rfl) ?_; simp only [List.getElem_toArray, List.getElem_cons_zero, List.getElem_cons_succ, Act.put, List.setIfInBounds_toArray, List.set_cons_zero, List.set_cons_succ])
          iterate 2 (refine plan_read rfl (by rfl) (v := ?_) ?_ ?_; rotate_left 1; (intro W hW; have hW0 := below_step hBase hW; (try dsimp only at hW); go_simp <;> with_reducible rfl); simp only [List.getElem_toArray, List.getElem_cons_zero, List.getElem_cons_succ, Act.put, List.setIfInBounds_toArray, List.set_cons_zero, List.set_cons_succ])
          refine plan_done ?_
          go_wp2_with fail
          go_roundw
          case rel => exact HREL.out _ HV.out
          case measure => simp [intOf]; omega
        | false =>
          by_cases ek : kl = k1
          · have x0 : decide (kl = k1) = true := by simp [ek]
            rw [x0] at b0
            have HV : Hid (decide (ml = t1) = decide ((k1, t1) ∈ (conT ts).take (k + 1))) := by unfold Hid; rw [HEQ.out]; simp [ek]
            clear x0 ek HEQ
            generalize decide (ml = t1) = y at b1 HV
            generalize strL kl = S0 at b0 hs0
            generalize strL k1 = S1 at b0 hs1
            generalize strL ml = S2 at b1 hs2
            generalize strL t1 = S3 at b1 hs3
            go_wp2_with fail
            refine wp_region_plan (.step 0 false (.step 1 false (.step 2 false (.step 3 false (.step 4 false (.step 5 false (.step 6 false (.step 7 false (.step 8 false (.step 9 false (.step 10 false (.step 11 false (.step 12 false (.step 13 false (.step 14 false (.step 15 false (.step 16 false (.step 17 false (.step 18 false (.step 19 false (.step 20 false (.step 21 false (.step 22 false (.step 23 false (.nil))))))))))))))))))))))))) (by kernel_rfl) (by kernel_rfl) (by rfl) (by kernel_rfl) ?_
            iterate 24 (refine plan_read rfl (by rfl) (v := ?_) ?_ ?_; rotate_left 1; (intro W hW; have hW0 := below_step hBase hW; (try dsimp only at hW); go_simp <;> with_reducible rfl); simp only [List.getElem_toArray, List.getElem_cons_zero, List.getElem_cons_succ, Act.put, List.setIfInBounds_toArray, List.set_cons_zero, List.set_cons_succ])
            refine plan_done ?_
            clear hs0 hs1 hs2 hs3 b0 b1 hc0 hc1
            go_wp2_with fail
            go_roundw
            case rel => exact HREL.out _ HV.out
            case measure => simp [intOf]; omega
          · have x0 : decide (kl = k1) = false := by simp [ek]
            rw [x0] at b0
            have HV : Hid (false = decide ((k1, t1) ∈ (conT ts).take (k + 1))) := by unfold Hid; rw [HEQ.out]; simp [ek]
            clear x0 ek HEQ b1
            generalize strL kl = S0 at b0 hs0
            generalize strL k1 = S1 at b0 hs1
            go_wp2_with fail
            refine wp_region_plan (.step 0 false (.step 1 false (.step 2 false (.step 3 false (.step 4 false (.step 5 false (.step 6 false (.step 7 false (.step 8 false (.step 9 false (.step 10 false (.step 11 false (.step 12 false (.step 13 false (.step 14 false (.step 15 false (.step 16 false (.step 17 false (.step 18 false (.step 19 false (.step 20 false (.step 21 false (.step 22 false (.step 23 false (.nil))))))))))))))))))))))))) (by kernel_rfl) (by kernel_rfl) (by rfl) (by kernel_rfl) ?_
            iterate 12 (refine plan_read rfl (by rfl) (v := ?_) ?_ ?_; rotate_left 1; (intro W hW; have hW0 := below_step hBase hW; (try dsimp only at hW); go_simp <;> with_reducible rfl); simp only [List.getElem_toArray, List.getElem_cons_zero, List.getElem_cons_succ, Act.put, List.setIfInBounds_toArray, List.set_cons_zero, List.set_cons_succ])
            iterate 9 (refine plan_skip rfl (by rfl) ?_; simp only [List.getElem_toArray, List.getElem_cons_zero, List.getElem_cons_succ, Act.put, List.setIfInBounds_toArray, List.set_cons_zero, List.set_cons_succ])
            iterate 3 (refine plan_read rfl (by rfl) (v := ?_) ?_ ?_; rotate_left 1; (intro W hW; have hW0 := below_step hBase hW; (try dsimp only at hW); go_simp <;> with_reducible rfl); simp only [List.getElem_toArray, List.getElem_cons_zero, List.getElem_cons_succ, Act.put, List.setIfInBounds_toArray, List.set_cons_zero, List.set_cons_succ])
            refine plan_done ?_
            clear hs0 hs1 hs2 hs3 b0 hc0 hc1
            go_wp2_with fail
            go_roundw
            case rel => exact HREL.out _ HV.out
            case measure => simp [intOf]; omega
      · have j1 : ¬ (k : Int) < (p : Int) := by have := HP.out; omega
        have hall : (conT ts).take k = conT ts := List.take_of_length_le (by rw [conT_length]; omega)
        rw [hall]
        clear hall
        by_cases hin : (k1, t1) ∈ conT ts
        · rw [decide_eq_true hin]
          clear hin
          go_wp2_with fail
          go_ret
          exact ⟨rfl, below_step hB hBk⟩
        · rw [decide_eq_false hin]
          have HF : Hid (fitsE 2 (conT ts) (k1, t1) tag = false) := by unfold Hid fitsE; simp [hin]
          clear hin
          have c0 : wr.cell? ⟨g0, 0, none⟩ = some (.int .i64 2) := (hR.later hBk).cell rfl
          have c1 : wr.cell? ⟨g0, 1, none⟩ = some (.slice A p c) := (hR.later hBk).cell rfl
          go_wp2_with fail
          refine (fitsE_any 2 ts k1 t1 tag p n1 m1 q A B1 C1 D c d1 e1 f _ HP HLT HN1 HM1 HQ (HT.out.1.keep hBk) (HT.out.2.1.keep hBk) (hk1.keep hBk) (hm1.keep hBk) (hg.keep hBk) (by omega) hpc (by omega) (by omega) (by omega) hd1 he1 hqf (Lib.hid (HK.out.keep hBk))).mono ?_
          rintro e' w6 ⟨rfl, hb⟩
          rw [HF.out]
          go_wp2_with fail
          go_ret
          exact ⟨rfl, below_step hB (below_step hBk hb)⟩
end Go.Proofs.Ytcejbofdgljemaa
/-
  The walk of the law MacFits: a tag that was made fits its text and key, by the engine behind it, and behind another one; turned at one place, or cut, it fits no more; a Concrete one is the beginning of layer 3's tag. Condition: the package's table holds the sixty-four constants.
-/
namespace Go.Proofs.Ytcejbofdgljemaa
set_option maxRecDepth 100000
open Go.RowKit
set_option linter.unusedSimpArgs false
set_option linter.unusedVariables false

theorem xor_same (a y : UInt8) : xorB a y = a ↔ y = 0 := by
  constructor
  · intro h
    have e : xorB a (xorB a y) = xorB a a := by rw [h]
    unfold xorB at e
    rw [← UInt8.xor_assoc, UInt8.xor_self, UInt8.zero_xor] at e
    exact e
  · intro h
    subst h
    exact UInt8.xor_zero
theorem turned_is (T : List UInt8) (q : Nat) (hq : q < T.length) (y : UInt8) : decide (T = T.set q (xorB T[q] y)) = decide (y = 0) := by
  by_cases h : y = 0
  · subst h
    have : xorB T[q] 0 = T[q] := UInt8.xor_zero
    rw [this]
    simp
  · rw [decide_eq_false h, decide_eq_false]
    intro e
    apply h
    have := congrArg (·[q]?) e
    simp [hq] at this
    exact (xor_same _ _).1 this.symm

end Go.Proofs.Ytcejbofdgljemaa
/-
  What comes in, opened by its type's shape (no program is named here): numbers, slices of whatever, arrays, structs. No conditions but those typed.
-/
namespace Go.Proofs.Ytcejbofdgljemaa
set_option maxRecDepth 100000
open Go.RowKit Go.Deep Go.WideShapes Go.ChangeShapes

/-- Cells of type t that can be read as data are a reading R of something. -/
def Opens (P : Program) (t : TypeId) {α : Type} (R : World → List Value → α → Prop) : Prop :=
  ∀ {H : Type} (enc : TypeId × Value → H) (w : World) (base : Nat) (spare : Nat → Bool) (held : Bool) (fuel : Nat) (cs : List Value) (x : DataW H × List MemPlace), DataW.trod enc P w base spare held fuel t cs = some x → ∃ a : α, R w cs a

def RByte : World → List Value → UInt8 → Prop := fun _ cs c => cs = [vB c]
def RWord : World → List Value → UInt32 → Prop := fun _ cs c => cs = [vW c]
def RNum : World → List Value → Nat → Prop := fun _ cs v => cs = [.int .u64 (v : Int)] ∧ v < 18446744073709551616
def RInt : World → List Value → Int → Prop := fun _ cs n => cs = [.int .i64 n] ∧ -9223372036854775808 ≤ n ∧ n ≤ 9223372036854775807
def RBool : World → List Value → Bool → Prop := fun _ cs b => cs = [.bool b]

section
variable {P : Program} {t e : TypeId}
theorem opens_byte (ht : P.underlying t = some (.int .u8)) : Opens P t RByte := fun enc w base spare held fuel cs x h => by
  obtain ⟨n, rfl, _, hw⟩ := DataW.trod_int ht h
  simp [Lit.wf, IntKind.min, IntKind.max, IntKind.signed, IntKind.bits] at hw
  refine ⟨UInt8.ofNat n.toNat, ?_⟩
  unfold RByte vB
  rw [UInt8.toNat_ofNat']
  congr 2
  omega
theorem opens_word (ht : P.underlying t = some (.int .u32)) : Opens P t RWord := fun enc w base spare held fuel cs x h => by
  obtain ⟨n, rfl, _, hw⟩ := DataW.trod_int ht h
  simp [Lit.wf, IntKind.min, IntKind.max, IntKind.signed, IntKind.bits] at hw
  refine ⟨UInt32.ofNat n.toNat, ?_⟩
  unfold RWord vW
  rw [UInt32.toNat_ofNat']
  congr 2
  omega
theorem opens_num (ht : P.underlying t = some (.int .u64)) : Opens P t RNum := fun enc w base spare held fuel cs x h => by
  obtain ⟨n, rfl, _, hw⟩ := DataW.trod_int ht h
  obtain ⟨v, hv, rfl⟩ := u64_of_wf hw
  exact ⟨v, rfl, hv⟩
theorem opens_int (ht : P.underlying t = some (.int .i64)) : Opens P t RInt := fun enc w base spare held fuel cs x h => by
  obtain ⟨n, rfl, _, hw⟩ := DataW.trod_int ht h
  exact ⟨n, rfl, i64_of_wf hw⟩

/-- A slice: its elements, of m cells each, lie one behind the other. -/
def RSlice (m : Nat) {α : Type} (R : World → List Value → α → Prop) : World → List Value → List α → Prop := fun w cs l =>
  ∃ (A : Option Addr) (cap : Nat), cs = [.slice A l.length cap] ∧ l.length ≤ cap ∧ cap ≤ 9223372036854775807 ∧
    (l ≠ [] → ∃ b o, A = some ⟨b, o, none⟩ ∧ ∀ i (h : i < l.length), ∃ ecs : List Value, ecs.length = m ∧ (∀ j (hj : j < ecs.length), w.cell? ⟨b, o + i * m + j, none⟩ = some ecs[j]) ∧ R w ecs l[i])

theorem cells_at {w : World} {base : Nat} {a : Addr} {n : Nat} {cs : List Value} (h : w.cells? base a n = some cs) : cs.length = n ∧ ∀ j (hj : j < cs.length), w.cell? (a.add j) = some cs[j] := by
  obtain ⟨_, hl, hc⟩ := World.cells?_some h
  refine ⟨hl, fun j hj => ?_⟩
  have := hc j (by omega)
  rw [this]
  exact List.getElem?_eq_getElem hj

theorem choose_list {α : Type} (n : Nat) (p : Nat → α → Prop) (h : ∀ i, i < n → ∃ a, p i a) : ∃ l : List α, l.length = n ∧ ∀ i (hi : i < l.length), p i l[i] := by
  induction n with
  | zero => exact ⟨[], rfl, fun i hi => by simp at hi⟩
  | succ n ih =>
    obtain ⟨l, hl, hp⟩ := ih (fun i hi => h i (by omega))
    obtain ⟨a, ha⟩ := h n (by omega)
    refine ⟨l ++ [a], by simp [hl], fun i hi => ?_⟩
    by_cases hin : i < l.length
    · rw [List.getElem_append_left hin]; exact hp i hin
    · have : i = n := by simp at hi; omega
      subst this
      rw [List.getElem_append_right (by omega)]
      simpa [hl] using ha

theorem opens_slice {α : Type} {R : World → List Value → α → Prop} {m : Nat} (ht : P.underlying t = some (.slice e)) (hc : P.cellsOf e = m) (hm : 0 < m) (he : Opens P e R) : Opens P t (RSlice m R) := fun enc w base spare held fuel cs x h => by
  rcases open_slice ht h with ⟨rfl, _⟩ | ⟨a, len, cap, mm, n, D, Pl, rfl, hb, hl, hcap, hmm, rfl, hx⟩
  · exact ⟨[], none, 0, rfl, Nat.le_refl _, by omega, fun h => absurd rfl h⟩
  · have hlm : len ≤ mm := by rw [hmm]; split <;> omega
    unfold maxLen at hcap
    obtain ⟨l, hll, hp⟩ := choose_list len (fun i (y : α) => ∃ ecs : List Value, ecs.length = m ∧ (∀ j (hj : j < ecs.length), w.cell? ((a.add (i * m)).add j) = some ecs[j]) ∧ R w ecs y) (fun i hi => by
      obtain ⟨ecs, h1, h2⟩ := hx i (by omega)
      rw [hc] at h1
      obtain ⟨h3, h4⟩ := cells_at h1
      obtain ⟨y, hy⟩ := he enc w base spare held n ecs _ h2
      exact ⟨y, ecs, h3, h4, hy⟩)
    refine ⟨l, some a, cap, by rw [hll], by omega, by omega, fun hn => ?_⟩
    have h0 : 0 < l.length := by
      rcases Nat.eq_zero_or_pos l.length with h | h
      · exact absurd (List.eq_nil_of_length_eq_zero h) hn
      · exact h
    obtain ⟨b, o, spot⟩ := a
    obtain ⟨ecs, h3, h4, _⟩ := hp 0 h0
    have hc0 := h4 0 (by omega)
    have hspot : spot = none := by simpa [Addr.add] using World.cell?_spot hc0
    subst hspot
    have hadd : ∀ i j, ((⟨b, o, none⟩ : Addr).add i).add j = ⟨b, o + i + j, none⟩ := fun i j => by unfold Addr.add; split <;> split <;> simp_all
    refine ⟨b, o, rfl, fun i hi => ?_⟩
    obtain ⟨ecs, h3, h4, h5⟩ := hp i hi
    exact ⟨ecs, h3, fun j hj => by rw [← hadd]; exact h4 j hj, h5⟩

/-- An array: its elements' cells one behind the other (elements of one cell). -/
def RArr (n : Nat) {α : Type} (R : World → List Value → α → Prop) : World → List Value → List α → Prop := fun w cs l => l.length = n ∧ cs.length = n ∧ ∀ i (h : i < l.length), R w ((cs.drop i).take 1) l[i]
theorem opens_arr {α : Type} {R : World → List Value → α → Prop} {n : Nat} (ht : P.underlying t = some (.array n e)) (hc : P.cellsOf e = 1) (hn : P.cellsOf t = n) (he : Opens P e R) : Opens P t (RArr n R) := fun enc w base spare held fuel cs x h => by
  obtain ⟨xs, m, _, _, hl, hxl, hx⟩ := DataW.trod_array ht h
  obtain ⟨l, hll, hp⟩ := choose_list n (fun i (y : α) => R w ((cs.drop i).take 1) y) (fun i hi => by
    have := hx i hi
    rw [hc, Nat.mul_one, List.getElem?_eq_getElem (by omega)] at this
    exact he enc w base spare held m _ _ this)
  exact ⟨l, hll, by omega, hp⟩

/-- Structs of two to four fields: each field's cells. -/
def RTwo (a0 n0 a1 n1 : Nat) {α β : Type} (R : World → List Value → α → Prop) (S : World → List Value → β → Prop) : World → List Value → α × β → Prop := fun w cs x => cs.length = n0 + n1 ∧ R w ((cs.drop a0).take n0) x.1 ∧ S w ((cs.drop a1).take n1) x.2
def RThree (a0 n0 a1 n1 a2 n2 : Nat) {α β γ : Type} (R : World → List Value → α → Prop) (S : World → List Value → β → Prop) (T : World → List Value → γ → Prop) : World → List Value → α × β × γ → Prop := fun w cs x => cs.length = n0 + n1 + n2 ∧ R w ((cs.drop a0).take n0) x.1 ∧ S w ((cs.drop a1).take n1) x.2.1 ∧ T w ((cs.drop a2).take n2) x.2.2
theorem opens_two {α β : Type} {R : World → List Value → α → Prop} {S : World → List Value → β → Prop} {f0 f1 : Field} {a0 n0 a1 n1 : Nat} (ht : P.underlying t = some (.struct #[f0, f1])) (e0 : f0.offset = a0) (e1 : f1.offset = a1) (c0 : P.cellsOf f0.type = n0) (c1 : P.cellsOf f1.type = n1) (hn : P.cellsOf t = n0 + n1)
    (h0 : Opens P f0.type R) (h1 : Opens P f1.type S) : Opens P t (RTwo a0 n0 a1 n1 R S) := fun enc w base spare held fuel cs x h => by
  obtain ⟨xs, n, _, _, hl, hxl, hx⟩ := DataW.trod_struct ht h
  have k0 := hx 0 f0 rfl
  have k1 := hx 1 f1 rfl
  simp only [List.size_toArray, List.length_cons, List.length_nil, Nat.zero_add, Nat.reduceAdd] at hxl
  rw [List.getElem?_eq_getElem (by omega), e0, c0] at k0
  rw [List.getElem?_eq_getElem (by omega), e1, c1] at k1
  obtain ⟨x0, r0⟩ := h0 enc w base spare held n _ _ k0
  obtain ⟨x1, r1⟩ := h1 enc w base spare held n _ _ k1
  exact ⟨(x0, x1), by omega, r0, r1⟩
theorem opens_three {α β γ : Type} {R : World → List Value → α → Prop} {S : World → List Value → β → Prop} {T : World → List Value → γ → Prop} {f0 f1 f2 : Field} {a0 n0 a1 n1 a2 n2 : Nat} (ht : P.underlying t = some (.struct #[f0, f1, f2])) (e0 : f0.offset = a0) (e1 : f1.offset = a1) (e2 : f2.offset = a2)
    (c0 : P.cellsOf f0.type = n0) (c1 : P.cellsOf f1.type = n1) (c2 : P.cellsOf f2.type = n2) (hn : P.cellsOf t = n0 + n1 + n2) (h0 : Opens P f0.type R) (h1 : Opens P f1.type S) (h2 : Opens P f2.type T) : Opens P t (RThree a0 n0 a1 n1 a2 n2 R S T) := fun enc w base spare held fuel cs x h => by
  obtain ⟨xs, n, _, _, hl, hxl, hx⟩ := DataW.trod_struct ht h
  have k0 := hx 0 f0 rfl
  have k1 := hx 1 f1 rfl
  have k2 := hx 2 f2 rfl
  simp only [List.size_toArray, List.length_cons, List.length_nil, Nat.zero_add, Nat.reduceAdd] at hxl
  rw [List.getElem?_eq_getElem (by omega), e0, c0] at k0
  rw [List.getElem?_eq_getElem (by omega), e1, c1] at k1
  rw [List.getElem?_eq_getElem (by omega), e2, c2] at k2
  obtain ⟨x0, r0⟩ := h0 enc w base spare held n _ _ k0
  obtain ⟨x1, r1⟩ := h1 enc w base spare held n _ _ k1
  obtain ⟨x2, r2⟩ := h2 enc w base spare held n _ _ k2
  exact ⟨(x0, x1, x2), by omega, r0, r1, r2⟩
end

/-! ### Back to the words that the walks go by -/
theorem rd_of_rslice {α : Type} {f : α → Value} {R : World → List Value → α → Prop} {w : World} {cs : List Value} {l : List α} (hR : ∀ ecs x, R w ecs x → ecs = [f x]) (h : RSlice 1 R w cs l) : ∃ A cap, cs = [.slice A l.length cap] ∧ l.length ≤ cap ∧ cap ≤ 9223372036854775807 ∧ Rd f w A l := by
  obtain ⟨A, cap, e, h1, h2, h3⟩ := h
  refine ⟨A, cap, e, h1, h2, fun hn => ?_⟩
  obtain ⟨b, o, rfl, hc⟩ := h3 hn
  refine ⟨b, o, rfl, fun i hi => ?_⟩
  obtain ⟨ecs, _, h5, h6⟩ := hc i hi
  have := hR _ _ h6
  subst this
  have := h5 0 (by simp)
  simpa using this
theorem bytes_of_r {w : World} {cs : List Value} {l : List UInt8} (h : RSlice 1 RByte w cs l) : ∃ A cap, cs = [.slice A l.length cap] ∧ l.length ≤ cap ∧ cap ≤ 9223372036854775807 ∧ Rd vB w A l := rd_of_rslice (fun _ _ h => h) h
theorem words_of_r {w : World} {cs : List Value} {l : List UInt32} (h : RSlice 1 RWord w cs l) : ∃ A cap, cs = [.slice A l.length cap] ∧ l.length ≤ cap ∧ cap ≤ 9223372036854775807 ∧ Rd vW w A l := rd_of_rslice (fun _ _ h => h) h
theorem arr_words {n : Nat} {w : World} {cs : List Value} {l : List UInt32} (h : RArr n RWord w cs l) : cs = l.map vW ∧ l.length = n := by
  obtain ⟨h1, h2, h3⟩ := h
  refine ⟨?_, h1⟩
  apply List.ext_getElem
  · simp; omega
  · intro i hi hi'
    have := h3 i (by omega)
    unfold RWord at this
    have h4 := congrArg (fun l => l[0]?) this
    simp only [List.getElem?_take, List.getElem?_drop, Nat.add_zero, List.getElem?_eq_getElem hi, Nat.zero_lt_one, if_true, List.getElem?_cons_zero, Option.some.injEq] at h4
    rw [h4]
    simp

/-! ### A value and its cells -/
theorem okWide_arr {P : Program} {w : World} {r : Reach} {base n : Nat} {t e : TypeId} {v : Value} (ht : P.underlying t = some (.array n e)) (h : Value.okWide P w r base t v) : ∃ cs, v = .agg cs ∧ cs.size = P.cellsOf t := by
  simp only [Value.okWide, ht] at h
  obtain ⟨cs, h1, h2, _⟩ := h
  exact ⟨cs, h1, h2⟩

end Go.Proofs.Ytcejbofdgljemaa
/-
  A parameter that is a slice of bytes, opened. No conditions.
-/
namespace Go.Proofs.Ytcejbofdgljemaa
set_option maxRecDepth 100000
open Go.RowKit Go.WideShapes
set_option linter.unusedSimpArgs false
set_option linter.unusedVariables false

theorem opens_bytes : Opens Try.prog 25 (RSlice 1 RByte) := opens_slice Try.underlying25 (by kernel_rfl) (by omega) (opens_byte Try.underlying5)
section
variable {H : Type} {enc : TypeId × Value → H} {W : World} {base b1 : Nat} {spare : Nat → Bool} {held : Bool} {r : Reach} {v : Value} {d : DataW H} {p : List MemPlace}
theorem open_bytes (hv : Value.okWide Try.prog W r base 25 v) (ht : DataW.Trod enc Try.prog W b1 spare held 25 v d p) : ∃ (l : List UInt8) (A : Option Addr) (cap : Nat), v = .slice A l.length cap ∧ l.length ≤ cap ∧ cap ≤ 9223372036854775807 ∧ Rd vB W A l := by
  obtain ⟨a, len, cap, rfl⟩ := okWide_slice Try.underlying25 hv
  obtain ⟨fuel, hf⟩ := ht
  obtain ⟨l, hl⟩ := opens_bytes enc W _ _ _ _ _ _ hf
  obtain ⟨A, c, e, h1, h2, h3⟩ := bytes_of_r hl
  simp [Value.cells] at e
  obtain ⟨rfl, rfl, rfl⟩ := e
  exact ⟨l, _, _, rfl, h1, h2, h3⟩
end
end Go.Proofs.Ytcejbofdgljemaa
/-
  A parameter that is a list of terms, opened. No conditions.
-/
namespace Go.Proofs.Ytcejbofdgljemaa
set_option maxRecDepth 100000
open Go.RowKit Go.WideShapes
set_option linter.unusedSimpArgs false
set_option linter.unusedVariables false

/-- What comes in: terms in memory, whose bytes are there, no longer than may be. -/
def inT (w : World) (A : Option Addr) (ts : List TD) : Prop := RdT w A ts ∧ okT w ts ∧ ∀ x ∈ ts, x.k.length ≤ 9223372036854775807 ∧ x.m.length ≤ 9223372036854775807
theorem inT.keep {w w' : World} {A : Option Addr} {ts : List TD} (h : inT w A ts) (hb : Below w.heap.size w w') : inT w' A ts := ⟨h.1.keep hb, h.2.1.keep hb, h.2.2⟩

theorem opens_term : Opens Try.prog 40 (RTwo 0 1 1 1 (RSlice 1 RByte) (RSlice 1 RByte)) := opens_two Try.underlying40 rfl rfl (by kernel_rfl) (by kernel_rfl) (by kernel_rfl) opens_bytes opens_bytes
theorem opens_terms : Opens Try.prog 22 (RSlice 2 (RTwo 0 1 1 1 (RSlice 1 RByte) (RSlice 1 RByte))) := opens_slice Try.underlying22 (by kernel_rfl) (by omega) opens_term

theorem term_of_r {w : World} {cs : List Value} {x : Tm} (h : RTwo 0 1 1 1 (RSlice 1 RByte) (RSlice 1 RByte) w cs x) : ∃ t : TD, cs = [t.at0, t.at1] ∧ t.ok w ∧ t.k.length ≤ 9223372036854775807 ∧ t.m.length ≤ 9223372036854775807 := by
  obtain ⟨hl, h0, h1⟩ := h
  obtain ⟨A, c, e0, h2, h3, h4⟩ := bytes_of_r h0
  obtain ⟨B, d, e1, h5, h6, h7⟩ := bytes_of_r h1
  refine ⟨⟨A, c, x.1, B, d, x.2⟩, ?_, ⟨h2, h5, h4, h7⟩, by show x.1.length ≤ _; omega, by show x.2.length ≤ _; omega⟩
  match cs, hl with
  | [a, b], _ =>
    simp at e0 e1
    rw [e0, e1]
    rfl
theorem terms_of_r {w : World} {cs : List Value} {ls : List Tm} (h : RSlice 2 (RTwo 0 1 1 1 (RSlice 1 RByte) (RSlice 1 RByte)) w cs ls) : ∃ (ts : List TD) (A : Option Addr) (cap : Nat), cs = [.slice A ts.length cap] ∧ ts.length ≤ cap ∧ cap ≤ 9223372036854775807 ∧ inT w A ts := by
  obtain ⟨A, cap, e, h1, h2, h3⟩ := h
  by_cases hn : ls = []
  · subst hn
    exact ⟨[], A, cap, e, h1, h2, RdT.nil, (fun x hx => by cases hx), fun x hx => by cases hx⟩
  · obtain ⟨b, o, rfl, hc⟩ := h3 hn
    obtain ⟨ts, hl, hp⟩ := choose_list ls.length (fun i (t : TD) => (w.cell? ⟨b, o + i * 2, none⟩ = some t.at0 ∧ w.cell? ⟨b, o + i * 2 + 1, none⟩ = some t.at1) ∧ t.ok w ∧ t.k.length ≤ 9223372036854775807 ∧ t.m.length ≤ 9223372036854775807) (fun i hi => by
      obtain ⟨ecs, h4, h5, h6⟩ := hc i hi
      obtain ⟨t, rfl, h7, h8, h9⟩ := term_of_r h6
      exact ⟨t, ⟨h5 0 (by simp), h5 1 (by simp)⟩, h7, h8, h9⟩)
    refine ⟨ts, some ⟨b, o, none⟩, cap, by rw [hl]; exact e, by omega, h2, fun _ => ⟨b, o, rfl, fun i hi => (hp i hi).1⟩, fun x hx => ?_, fun x hx => ?_⟩
    · obtain ⟨i, hi, rfl⟩ := List.getElem_of_mem hx
      exact (hp i hi).2.1
    · obtain ⟨i, hi, rfl⟩ := List.getElem_of_mem hx
      exact (hp i hi).2.2

section
variable {H : Type} {enc : TypeId × Value → H} {W : World} {base b1 : Nat} {spare : Nat → Bool} {held : Bool} {r : Reach} {v : Value} {d : DataW H} {p : List MemPlace}
theorem open_terms (hv : Value.okWide Try.prog W r base 22 v) (ht : DataW.Trod enc Try.prog W b1 spare held 22 v d p) : ∃ (ts : List TD) (A : Option Addr) (cap : Nat), v = .slice A ts.length cap ∧ ts.length ≤ cap ∧ cap ≤ 9223372036854775807 ∧ inT W A ts := by
  obtain ⟨a, len, cap, rfl⟩ := okWide_slice Try.underlying22 hv
  obtain ⟨fuel, hf⟩ := ht
  obtain ⟨l, hl⟩ := opens_terms enc W _ _ _ _ _ _ hf
  obtain ⟨ts, A, c, e, h1, h2, h3⟩ := terms_of_r hl
  simp [Value.cells] at e
  obtain ⟨rfl, rfl, rfl⟩ := e
  exact ⟨ts, _, _, rfl, h1, h2, h3⟩
end

end Go.Proofs.Ytcejbofdgljemaa
/-
  The laws of layer 6, at whatever comes in: they answer true, and write nothing that was there. Condition: the package's table holds sixty-four words.
-/
namespace Go.Proofs.Ytcejbofdgljemaa
set_option maxRecDepth 100000
open Go.RowKit Go.WideShapes
set_option linter.unusedSimpArgs false
set_option linter.unusedVariables false

theorem inE_of {w : World} {A : Option Addr} {ts : List TD} (h : inT w A ts) : inE w A ts := h
theorem opens_engine : Opens Try.prog 24 (RTwo 0 1 1 1 RInt (RSlice 2 (RTwo 0 1 1 1 (RSlice 1 RByte) (RSlice 1 RByte)))) := opens_two Try.underlying24 rfl rfl (by kernel_rfl) (by kernel_rfl) (by kernel_rfl) (opens_int Try.underlying3) opens_terms
section
variable {H : Type} {enc : TypeId × Value → H} {W : World} {base b1 : Nat} {spare : Nat → Bool} {held : Bool} {r : Reach} {v : Value} {d : DataW H} {p : List MemPlace}
theorem open_engine (hv : Value.okWide Try.prog W r base 24 v) (ht : DataW.Trod enc Try.prog W b1 spare held 24 v d p) : ∃ (K : Int) (ts : List TD) (A : Option Addr) (cap : Nat), v = .agg #[.int .i64 K, .slice A ts.length cap] ∧ ts.length ≤ cap ∧ cap ≤ 9223372036854775807 ∧ inE W A ts := by
  obtain ⟨cs, rfl, _⟩ := okWide_struct Try.underlying24 hv
  obtain ⟨fuel, hf⟩ := ht
  obtain ⟨⟨K, l⟩, hl, h0, h1⟩ := opens_engine enc W _ _ _ _ _ _ hf
  obtain ⟨ts, A, c, e, h2, h3, h4⟩ := terms_of_r h1
  obtain ⟨e0, _⟩ := h0
  refine ⟨K, ts, A, c, ?_, h2, h3, inE_of h4⟩
  congr 1
  apply Array.toList_inj.1
  simp only [Value.cells] at hl e e0
  match hcs : cs.toList, hl with
  | [a, b], _ =>
    rw [hcs] at e e0
    simp at e e0
    rw [e, e0]
theorem open_u8 (hv : Value.okWide Try.prog W r base 5 v) (ht : DataW.Trod enc Try.prog W b1 spare held 5 v d p) : ∃ y : UInt8, v = .int .u8 (y.toNat : Int) := by
  obtain ⟨n, rfl⟩ := okWide_int Try.underlying5 hv
  obtain ⟨fuel, hf⟩ := ht
  obtain ⟨y, hy⟩ := opens_byte Try.underlying5 enc W _ _ _ _ _ _ hf
  unfold RByte vB at hy
  simp [Value.cells] at hy
  exact ⟨y, by rw [hy]⟩
theorem open_i64 (hv : Value.okWide Try.prog W r base 3 v) (ht : DataW.Trod enc Try.prog W b1 spare held 3 v d p) : ∃ n : Int, v = .int .i64 n := okWide_int Try.underlying3 hv
end

set_option maxRecDepth 100000 in
theorem macsymbolic_out [Inhabited Tab] (ts : List TD) (p : Nat) (A : Option Addr) (c : Nat) (w : World) (HP : Hid (ts.length = p)) (ht : inE w A ts) (hp : p ≤ 9223372036854775807) (n1 m1 n2 m2 q : Nat) (B1 C1 B2 C2 D : Option Addr) (d1 e1 d2 e2 f : Nat) (hn1 : n1 ≤ 9223372036854775807) (hm1 : m1 ≤ 9223372036854775807) (hn2 : n2 ≤ 9223372036854775807) (hm2 : m2 ≤ 9223372036854775807) (hq : q ≤ 9223372036854775807) (h : ¬ (shortT (conT ts) = true ∧ n1 ≤ 2000 ∧ m1 ≤ 2000 ∧ n2 ≤ 2000 ∧ m2 ≤ 2000 ∧ q ≤ 2000)) (HK : Hid (KTab w)) :
    Calls Try.prog 4 #[.slice A p c, .slice B1 n1 d1, .slice C1 m1 e1, .slice B2 n2 d2, .slice C2 m2 e2, .slice D q f] w fun e w' => e = .returned (.bool true) ∧ Below w.heap.size w w' := by
  go_enter Try.func4, Try.ntmps4
  go_wp2_with fail
  refine (awake6_any _ HK).mono ?_
  rintro e' w2 ⟨rfl, hB⟩
  replace ht := ht.keep hB
  go_wp2_with fail
  refine (refshort_any ts p A c _ HP ht.1 ht.2.2 hp).mono ?_
  rintro e' w3 ⟨rfl, rfl⟩
  by_cases hs : shortT (conT ts) = true
  · rw [hs]
    by_cases k0 : n1 ≤ 2000
    · have g0 : decide ((2000 : Int) < (n1 : Int)) = false := decide_eq_false (by omega)
      have z0 : ¬ 2000 < n1 := by omega
      by_cases k1 : m1 ≤ 2000
      · have g1 : decide ((2000 : Int) < (m1 : Int)) = false := decide_eq_false (by omega)
        have z1 : ¬ 2000 < m1 := by omega
        by_cases k2 : n2 ≤ 2000
        · have g2 : decide ((2000 : Int) < (n2 : Int)) = false := decide_eq_false (by omega)
          have z2 : ¬ 2000 < n2 := by omega
          by_cases k3 : m2 ≤ 2000
          · have g3 : decide ((2000 : Int) < (m2 : Int)) = false := decide_eq_false (by omega)
            have z3 : ¬ 2000 < m2 := by omega
            have h4 : ¬ q ≤ 2000 := fun x => h ⟨hs, k0, k1, k2, k3, x⟩
            have g4 : decide ((2000 : Int) < (q : Int)) = true := decide_eq_true (by omega)
            have z4 : 2000 < q := by omega
            clear h
            go_wp2_with fail
            go_ret
            exact ⟨rfl, hB⟩
          · have g3 : decide ((2000 : Int) < (m2 : Int)) = true := decide_eq_true (by omega)
            have z3 : 2000 < m2 := by omega
            clear h
            go_wp2_with fail
            go_ret
            exact ⟨rfl, hB⟩
        · have g2 : decide ((2000 : Int) < (n2 : Int)) = true := decide_eq_true (by omega)
          have z2 : 2000 < n2 := by omega
          clear h
          go_wp2_with fail
          go_ret
          exact ⟨rfl, hB⟩
      · have g1 : decide ((2000 : Int) < (m1 : Int)) = true := decide_eq_true (by omega)
        have z1 : 2000 < m1 := by omega
        clear h
        go_wp2_with fail
        go_ret
        exact ⟨rfl, hB⟩
    · have g0 : decide ((2000 : Int) < (n1 : Int)) = true := decide_eq_true (by omega)
      have z0 : 2000 < n1 := by omega
      clear h
      go_wp2_with fail
      go_ret
      exact ⟨rfl, hB⟩
  · rw [Bool.eq_false_iff.2 hs]
    clear h
    go_wp2_with fail
    go_ret
    exact ⟨rfl, hB⟩

theorem macsymbolic_any [Inhabited Tab] (v0 v1 v2 v3 v4 v5 : Value) (W : World) {H : Type} {enc : TypeId × Value → H} {base : Nat} {d0 d1 d2 d3 d4 d5 : DataW H} {p0 p1 p2 p3 p4 p5 : List MemPlace}
    (hv0 : Value.okWide Try.prog W .any base 22 v0) (ht0 : DataW.Trod enc Try.prog W 0 (fun _ => true) true 22 v0 d0 p0) (hv1 : Value.okWide Try.prog W .any base 25 v1) (ht1 : DataW.Trod enc Try.prog W 0 (fun _ => true) true 25 v1 d1 p1) (hv2 : Value.okWide Try.prog W .any base 25 v2) (ht2 : DataW.Trod enc Try.prog W 0 (fun _ => true) true 25 v2 d2 p2) (hv3 : Value.okWide Try.prog W .any base 25 v3) (ht3 : DataW.Trod enc Try.prog W 0 (fun _ => true) true 25 v3 d3 p3) (hv4 : Value.okWide Try.prog W .any base 25 v4) (ht4 : DataW.Trod enc Try.prog W 0 (fun _ => true) true 25 v4 d4 p4) (hv5 : Value.okWide Try.prog W .any base 25 v5) (ht5 : DataW.Trod enc Try.prog W 0 (fun _ => true) true 25 v5 d5 p5) (hk : KTab W) :
    Calls Try.prog 4 #[v0, v1, v2, v3, v4, v5] W fun e w' => e = .returned (.bool true) ∧ Below W.heap.size W w' := by
  obtain ⟨ts, A, c, rfl, hc, hcm, ht⟩ := open_terms hv0 ht0
  obtain ⟨k1, B1, d1, rfl, hd1, hdm1, hk1⟩ := open_bytes hv1 ht1
  obtain ⟨m1, C1, e1, rfl, he1, hem1, hm1⟩ := open_bytes hv2 ht2
  obtain ⟨k2, B2, d2, rfl, hd2, hdm2, hk2⟩ := open_bytes hv3 ht3
  obtain ⟨m2, C2, e2, rfl, he2, hem2, hm2⟩ := open_bytes hv4 ht4
  obtain ⟨g, D, f, rfl, hf, hfm, hg⟩ := open_bytes hv5 ht5
  by_cases h : shortT (conT ts) = true ∧ k1.length ≤ 2000 ∧ m1.length ≤ 2000 ∧ k2.length ≤ 2000 ∧ m2.length ≤ 2000 ∧ g.length ≤ 2000
  · exact macsymbolic_core ts k1 m1 k2 m2 g _ _ _ _ _ _ A B1 C1 B2 C2 D c d1 e1 d2 e2 f W (Lib.hid rfl) (Lib.hid rfl) (Lib.hid rfl) (Lib.hid rfl) (Lib.hid rfl) (Lib.hid rfl) (inE_of ht) hk1 hm1 hk2 hm2 hg hc hd1 he1 hd2 he2 hf h.2.1 h.2.2.1 h.2.2.2.1 h.2.2.2.2.1 h.2.2.2.2.2 (Lib.hid h.1) (Lib.hid hk)
  · exact macsymbolic_out ts _ A c W (Lib.hid rfl) (inE_of ht) (by omega) _ _ _ _ _ B1 C1 B2 C2 D d1 e1 d2 e2 f (by omega) (by omega) (by omega) (by omega) (by omega) h (Lib.hid hk)
end Go.Proofs.Ytcejbofdgljemaa
/-
  The table of sixty-four words, where no row lists it: it holds some words, whichever (a world of the form's shape). No conditions.
-/
namespace Go.Proofs.Ytcejbofdgljemaa
set_option maxRecDepth 100000
open Go.RowKit

theorem tab_first : (((begin Try.prog (fun _ _ => 0) default).world.heap[0]?).bind Obj.row?).map (fun x => (x.1.size, x.2)) = some (64, 100) := by kernel_rfl
theorem tab_global : decide (0 < Try.prog.globals.size) = true := by kernel_rfl
theorem tab_build : Try.prog.buildable 100 = true := by kernel_rfl
theorem tab_cells : Try.prog.cellTypes Try.prog.depth 100 = some (List.replicate 64 65) := by kernel_rfl
theorem tab_of_open {w : World} (h : w.ShapedOpen Try.prog) : ∃ _ : Inhabited Tab, KTab w := by
  obtain ⟨h1, _⟩ := h
  obtain ⟨zero, t, hz, h64, ht⟩ : ∃ zero t, ((begin Try.prog (fun _ _ => 0) default).world.heap[0]?).bind Obj.row? = some (zero, t) ∧ zero.size = 64 ∧ t = 100 := by
    have e := tab_first
    cases hx : ((begin Try.prog (fun _ _ => 0) default).world.heap[0]?).bind Obj.row? with
    | none => rw [hx] at e; cases e
    | some x =>
      rw [hx] at e
      injection e with e
      injection e with e1 e2
      exact ⟨x.1, x.2, rfl, e1, e2⟩
  subst ht
  obtain ⟨cs, hcs, hsz, hrow⟩ := h1 _ zero _ (of_decide_eq_true tab_global) hz
  obtain ⟨ts, hts, _, hcell⟩ := hrow tab_build
  rw [tab_cells] at hts
  injection hts with hts
  subst hts
  rw [h64] at hsz
  have hval : ∀ i (hi : i < 64), ∃ x : UInt32, cs[i]? = some (.int .u32 (x.toNat : Int)) := fun i hi => by
    have hlt : i < cs.size := by omega
    obtain ⟨u, hu, hok⟩ := hcell i cs[i] (Array.getElem?_eq_getElem hlt)
    rw [List.length_replicate, List.getElem?_replicate, if_pos (Nat.mod_lt _ (by omega))] at hu
    injection hu with hu
    subst hu
    unfold Cell.ok at hok
    rw [Try.underlying65] at hok
    rw [Array.getElem?_eq_getElem hlt]
    generalize cs[i] = v at hok
    cases v with
    | int k n =>
      obtain ⟨rfl, hn⟩ := hok
      simp [IntKind.has, IntKind.min, IntKind.max, IntKind.signed, IntKind.bits] at hn
      exact ⟨UInt32.ofNat n.toNat, by rw [UInt32.toNat_ofNat']; congr 2; omega⟩
    | _ => exact hok.elim
  obtain ⟨f, hf⟩ : ∃ f : Nat → UInt32, ∀ i, i < 64 → cs[i]? = some (.int .u32 ((f i).toNat : Int)) := by
    refine ⟨fun i => if hi : i < 64 then (hval i hi).choose else 0, fun i hi => ?_⟩
    dsimp only
    rw [dif_pos hi]
    exact (hval i hi).choose_spec
  refine ⟨⟨⟨(List.range 64).map f⟩⟩, fun i hi => ?_⟩
  have e : (((List.range 64).map f).getD i 0) = f i := by simp [List.getD, hi]
  show w.cell? ⟨0, i, none⟩ = some (.int .u32 (((((List.range 64).map f).getD i 0)).toNat : Int))
  rw [e, ← hf i hi]
  exact cell_of_row w _ i cs _ (0, 0) hcs
end Go.Proofs.Ytcejbofdgljemaa
/-
  The law MacSymbolic of layer 6, at whatever comes in, whatever words the table of layer 2 holds. No conditions but the form's own.
-/
namespace Go.Proofs.Ytcejbofdgljemaa
set_option maxRecDepth 100000
open Go.RowKit Go.WideShapes

theorem macsymbolic_open (v0 v1 v2 v3 v4 v5 : Value) (W : World) {H : Type} {enc : TypeId × Value → H} {base : Nat} {d0 d1 d2 d3 d4 d5 : DataW H} {p0 p1 p2 p3 p4 p5 : List MemPlace}
    (hv0 : Value.okWide Try.prog W .any base 22 v0) (ht0 : DataW.Trod enc Try.prog W 0 (fun _ => true) true 22 v0 d0 p0) (hv1 : Value.okWide Try.prog W .any base 25 v1) (ht1 : DataW.Trod enc Try.prog W 0 (fun _ => true) true 25 v1 d1 p1) (hv2 : Value.okWide Try.prog W .any base 25 v2) (ht2 : DataW.Trod enc Try.prog W 0 (fun _ => true) true 25 v2 d2 p2) (hv3 : Value.okWide Try.prog W .any base 25 v3) (ht3 : DataW.Trod enc Try.prog W 0 (fun _ => true) true 25 v3 d3 p3) (hv4 : Value.okWide Try.prog W .any base 25 v4) (ht4 : DataW.Trod enc Try.prog W 0 (fun _ => true) true 25 v4 d4 p4) (hv5 : Value.okWide Try.prog W .any base 25 v5) (ht5 : DataW.Trod enc Try.prog W 0 (fun _ => true) true 25 v5 d5 p5) (hsh : W.ShapedOpen Try.prog) :
    Calls Try.prog 4 #[v0, v1, v2, v3, v4, v5] W fun e w' => e = .returned (.bool true) ∧ Below W.heap.size W w' := by
  obtain ⟨I, hk⟩ := tab_of_open hsh
  exact @macsymbolic_any I v0 v1 v2 v3 v4 v5 W H enc base d0 d1 d2 d3 d4 d5 p0 p1 p2 p3 p4 p5 hv0 ht0 hv1 ht1 hv2 ht2 hv3 ht3 hv4 ht4 hv5 ht5 hk
end Go.Proofs.Ytcejbofdgljemaa
