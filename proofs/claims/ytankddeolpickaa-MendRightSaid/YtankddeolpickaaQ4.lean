/-
  What the program's calls of layer 9 answer, over the landed code. No conditions but those typed.
-/
import Derived.Test.YtankddeolpickaaQ3
import Derived.Lib.SmallJoins
import Derived.Lib.SlBytesConst
import Derived.Maps.AppendAt
namespace Go.Proofs.Ytankddeolpickaa
set_option maxRecDepth 100000
open Go.RowKit
set_option linter.unusedSimpArgs false
set_option linter.unusedVariables false

/-- A call that hands back a list of bytes and an error. -/
def RetE (w : World) (l : List UInt8) (k : Int) (e : Ending) (w' : World) : Prop := ∃ A n c, e = .returned (.tuple #[.slice A n c, .int .i64 k]) ∧ Hid (l.length = n) ∧ n ≤ c ∧ Rd vB w' A l ∧ Below w.heap.size w w'

/-! ### mayBe, place, polynomial -/
theorem maybe_yes (n : Nat) (w : World) (h1 : 1 ≤ n) (h2 : n ≤ 64) : Calls Try.prog 24 #[.int .i64 (n : Int)] w fun e w' => e = .returned (.bool true) ∧ w = w' := by
  have j1 : (1 : Int) ≤ (n : Int) := by omega
  have j2 : (n : Int) ≤ 64 := by omega
  go_enter Try.func24, Try.ntmps24
  go_wp2_with fail
  go_ret
  exact ⟨rfl, rfl⟩
theorem maybe_no (n : Int) (w : World) (h : n < 1 ∨ 64 < n) : Calls Try.prog 24 #[.int .i64 n] w fun e w' => e = .returned (.bool false) ∧ w = w' := by
  by_cases h1 : 1 ≤ n
  · have h2 : ¬ n ≤ 64 := by omega
    clear h
    go_enter Try.func24, Try.ntmps24
    go_wp2_with fail
    go_ret
    exact ⟨rfl, rfl⟩
  · clear h
    go_enter Try.func24, Try.ntmps24
    go_wp2_with fail
    go_ret
    exact ⟨rfl, rfl⟩
theorem place_any (i : Nat) (x : UInt8) (w : World) (hi : i < 254) (HX : Hid (powB 2 (i + 1) = x)) : Calls Try.prog 26 #[.int .i64 (i : Int)] w fun e w' => e = .returned (.int .u8 (x.toNat : Int)) ∧ w = w' := by
  have h1 := gfexp_any ((i : Int) + 1) w
  rw [show ((i : Int) + 1) = ((i + 1 : Nat) : Int) by omega, powZ_two (i + 1) (by omega), HX.out, show (((i + 1 : Nat)) : Int) = (i : Int) + 1 by omega] at h1
  have H1 := Lib.hid h1
  clear h1
  go_enter Try.func26, Try.ntmps26
  go_wp2_with fail
  refine H1.out.mono ?_
  rintro e w1 ⟨rfl, rfl⟩
  go_wp2_with fail
  go_ret
  exact ⟨rfl, rfl⟩
theorem poly_own (b : List UInt8) (n : Nat) (A : Option Addr) (c : Nat) (w : World) (HN : Hid (b.length = n)) (hr : Rd vB w A b) (hn : n ≤ 100000) :
    Calls Try.prog 22 #[.slice A n c] w (RetP w b.reverse) := by
  have e1 := HN.out
  subst e1
  go_enter Try.func22, Try.ntmps22
  go_wp2_with fail
  refine (clone_own b A c w hr (by omega)).mono ?_
  rintro e w1 ⟨v, rfl, ho, hb1⟩
  obtain ⟨A1, c1, rfl, hc1⟩ := own_form ho
  by_cases h0 : b.length = 0
  · have e0 : b = [] := List.eq_nil_of_length_eq_zero h0
    subst e0
    go_wp2_with fail
    refine (reverse_nil A1 c1 w1).mono ?_
    rintro e w2 ⟨⟨v2, rfl⟩, rfl⟩
    go_wp2_with fail
    go_ret
    exact ⟨_, rfl, ho, hb1⟩
  · obtain ⟨g, rfl, hg, _⟩ := cel_of_own ho rfl (by omega)
    obtain ⟨hcel, _, hle, hmax⟩ := celN_some ho rfl
    go_wp2_with fail
    refine (reverse_cel b b.length g c1 c1 w1 (Lib.hid rfl) hcel hc1 hn).mono ?_
    rintro e w2 ⟨⟨v2, rfl⟩, hcel2, ho2⟩
    have hown := hcel2.own (base := w.heap.size) hg (by rw [List.length_reverse]; exact hc1) hmax
    have hb2 := hb1.trans (ho2.below.mono hg)
    rw [List.length_reverse] at hown
    have HO := Lib.hid hown
    clear hown
    go_wp2_with fail
    go_ret
    exact ⟨_, rfl, by rw [List.length_reverse]; exact HO.out, hb2⟩
theorem poly_any (b : List UInt8) (n : Nat) (A : Option Addr) (c : Nat) (w : World) (HN : Hid (b.length = n)) (hr : Rd vB w A b) (hn : n ≤ 100000) :
    Calls Try.prog 22 #[.slice A n c] w (RetQ w b.reverse) := (poly_own b n A c w HN hr hn).mono fun _ _ h => h.any

/-! ### Gen -/
def GenI (n : Nat) (w : World) (g i : Value) (wr : World) : Prop :=
  ∃ (j : Nat) (A : Option Addr) (k c : Nat), j ≤ n ∧ i = .int .i64 (j : Int) ∧ g = .slice A k c ∧ Hid ((genL j).length = k) ∧ k ≤ c ∧ Rd vB wr A (genL j) ∧ Below w.heap.size w wr
set_option maxHeartbeats 2000000 in
theorem genS_ok (n : Nat) (w : World) (h1 : 1 ≤ n) (h2 : n ≤ 64) :
    Calls Try.prog 20 #[.int .i64 (n : Int)] w (RetE w (genL n) 0) := by
  go_enter Try.func20, Try.ntmps20
  go_wp2_with fail
  refine (maybe_yes n _ h1 h2).mono ?_
  rintro e w1 ⟨rfl, rfl⟩
  go_wp2_with fail
  go_loopw [4, 11] (fun g i wr => GenI n w g i wr) (fun _ i _ => n - (intOf i).toNat)
  case atStart => exact ⟨0, some ⟨w.heap.size, 0, none⟩, 1, 1, Nat.zero_le _, rfl, rfl, rfl, Nat.le_refl _, Rd.new w [1] _ _ rfl, below_new (Below.refl _ _) _⟩
  case round =>
    obtain ⟨j, A, k, c, hj, rfl, rfl, HK, hc, hr, hb⟩ := hrel
    by_cases h : j < n
    · have j1 : (j : Int) < (n : Int) := by omega
      have HKJ : Hid (k ≤ 100) := by unfold Hid; rw [← HK.out, (gen_is j).1]; omega
      obtain ⟨x, hx⟩ : ∃ x, powB 2 (j + 1) = x := ⟨_, rfl⟩
      have hg : genL (j + 1) = plainL (mulL (genL j) [x, 1]) := by rw [← hx]; rfl
      obtain ⟨p', hp'⟩ : ∃ p', genL (j + 1) = p' := ⟨_, rfl⟩
      rw [hp'] at hg
      have HG := Lib.hid hg
      have HP' := Lib.hid hp'
      have HX := Lib.hid hx
      clear hx hg hp'
      generalize genL j = p at HK hr HG
      go_wp2_with fail
      refine (place_any j x _ (by omega) HX).mono ?_
      rintro e w1 ⟨rfl, rfl⟩
      go_wp2_with fail
      have hl : Rd vB (wr.alloc (.cells #[.int .u8 (x.toNat : Int), .int .u8 1] 5)) (some ⟨wr.heap.size, 0, none⟩) [x, 1] := Rd.new wr [x, 1] _ _ rfl
      refine (mulP_any p [x, 1] k 2 A _ c _ _ HK (Lib.hid rfl) (hr.keep (below_new (Below.refl _ _) _)) hl hc (Nat.le_refl _) (by have := HKJ.out; omega) (by omega)).mono ?_
      rintro e w2 ⟨A2, n2, c2, rfl, HN2, hc2, hr2, hb2⟩
      rw [← HG.out] at HN2 hr2
      have hB := below_step (below_new hb _) hb2
      clear hb hb2 hl hr HK HG
      go_wp2_with fail
      go_roundw
      case rel => exact ⟨j + 1, A2, n2, c2, h, by go_num, rfl, by rw [HP'.out]; exact HN2, hc2, by rw [HP'.out]; exact hr2, hB⟩
      case measure => simp [intOf] <;> omega
    · have j1 : ¬ (j : Int) < (n : Int) := by omega
      have ej : j = n := by omega
      subst ej
      go_wp2_with fail
      go_ret2
      exact ⟨A, k, c, rfl, HK, hc, hr, hb⟩
theorem genS_no (n : Int) (w : World) (h : n < 1 ∨ 64 < n) :
    Calls Try.prog 20 #[.int .i64 n] w (RetE w [] 1) := by
  have HM := Lib.hid (maybe_no n w h)
  clear h
  go_enter Try.func20, Try.ntmps20
  go_wp2_with fail
  refine HM.out.mono ?_
  rintro e w1 ⟨rfl, rfl⟩
  go_wp2_with fail
  go_ret2
  exact ⟨none, 0, 0, rfl, Lib.hid rfl, Nat.le_refl _, Rd.nil, Below.refl _ _⟩

/-! ### Put -/
theorem putS_quo (d q r : List UInt8) (n : Nat) (h1 : 1 ≤ n) (hl : d.length + n ≤ 255) (hq : IsQuo (d ++ List.replicate n 0).reverse (genL n) q r) (hp : plainL r = r) :
    r.length ≤ n ∧ (d ++ List.replicate n 0).take (d.length + n - r.length) ++ r.reverse ++ (d ++ List.replicate n 0).drop (d.length + n - r.length + r.length) = putS d n := by
  obtain ⟨hG1, _, hG3⟩ := gen_is n
  have hrl : r.length ≤ n := by
    have := hq.2
    rw [hp] at this
    have := plain_len (genL n)
    omega
  refine ⟨hrl, ?_⟩
  have hz : (d ++ List.replicate n (0 : UInt8)).length = d.length + n := by rw [List.length_append, List.length_replicate]
  rw [Nat.sub_add_cancel (by omega), List.drop_of_length_le (by omega), List.append_nil, show d.length + n - r.length = d.length + (n - r.length) by omega, List.take_length_add_append, List.take_replicate, Nat.min_eq_left (by omega), List.append_assoc]
  refine putS_only d _ n h1 (by rw [List.length_append, List.length_replicate, List.length_reverse]; omega) hl (fun i i1 i2 => ?_)
  rw [val_append, List.length_append, List.length_replicate, List.length_reverse, Nat.sub_add_cancel hrl]
  have e1 : valB (List.replicate (n - r.length) 0 ++ r.reverse) (powB 2 i) = evalL r (powB 2 i) := by
    unfold valB
    rw [List.reverse_append, List.reverse_reverse, List.reverse_replicate]
    exact eval_congr (fun k => co_pad r _ k) _
  have e2 := eval_congr hq.1 (powB 2 i)
  rw [eval_add, eval_mul, hG3 i i1 i2, mul_zero, zero_add] at e2
  have e3 : evalL (d ++ List.replicate n 0).reverse (powB 2 i) = valB (d ++ List.replicate n 0) (powB 2 i) := rfl
  have e4 : valB (List.replicate n 0) (powB 2 i) = 0 := by
    unfold valB
    rw [List.reverse_replicate]
    exact eval_zeros n _
  rw [e3, val_append, e4, zero_add, List.length_replicate] at e2
  rw [e1, e2, add_self]
theorem gen_plain_ne (n : Nat) : plainL (genL n) ≠ [] := fun h => by
  have h1 := plain_eqv (genL n) n
  rw [h, (gen_is n).2.1, co_nil] at h1
  cases h1
/-- 'copy(d, s)' into a block whose first cells are bytes. -/
theorem wp_copy_cel {P : Program} {o : Oper} {a : Act} {w : World} {K : Act → World → Prop} {Q : Exit → Act → World → Prop} (d s : Operand) (dT sT : TypeId)
    (ho : o.op = .call { callee := .builtin .copy, args := #[d, s], argTypes := #[dT, sT] }) (elem : TypeId) (hu : P.underlying dT = some (.slice elem)) (hsz : (P.info? elem).map (·.size) = some 1)
    (g off dLen dCap : Nat) (A : Option Addr) (S : List UInt8) (sCap : Nat) (hd : a.eval d = .slice (some ⟨g, off, none⟩) dLen dCap) (hs : a.eval s = .slice A S.length sCap)
    (l : List UInt8) (t : TypeId) (hg : Cel w g t l) (hr : Rd vB w A S) (hle : S.length ≤ dLen) (hfit : off + S.length ≤ l.length)
    (h : ∀ w', Cel w' g t (l.take off ++ S ++ l.drop (off + S.length)) → Only g w w' → K (a.put o.dst (.int .i64 (S.length : Int))) w') : o.wp P a w K Q := by
  obtain ⟨L, h1, h2⟩ := hg
  have hlen : l.length ≤ L.length := by
    have := congrArg List.length h2
    rw [List.length_take, List.length_map] at this
    omega
  refine wp_copy_row d s dT sT ho elem hu hsz g off dLen dCap A S sCap hd hs L t h1 hr (fun _ => rfl) hle (by omega) ?_
  exact h _ ⟨_, h1.setRow _, cel_splice h2 off S hfit⟩ ((Only.refl g w).setRow _)
/-- 's[k:]' of a slice at the beginning of its block, whichever k. -/
theorem cut_some {P : Program} (t e : TypeId) (ht : P.underlying t = some (.slice e)) (hz : ∀ w, (sizeOf e).run P w = .ok 1 w) (g M m : Nat) (hm : m ≤ M) :
    ∃ off, (∀ w, (Instr.slice t (.slice (some ⟨g, 0, none⟩) M M) (some (.int .i64 ((M - m : Nat) : Int))) none none).run P w = .ok (.slice (some ⟨g, off, none⟩) m m) w) ∧ off + m ≤ M ∧ (off = M - m ∨ m = 0) := by
  by_cases h0 : m = 0
  · subst h0
    refine ⟨0, fun w => ?_, by omega, .inr rfl⟩
    have ht' : P.underlying t = some (.slice (P.elem t)) := by simp [Program.elem, ht]
    have he : P.elem t = e := by simp [Program.elem, ht]
    rw [run_slice_l w t (some ⟨g, 0, none⟩) M M ht' .i64 ((M - 0 : Nat) : Int) (by omega) (by omega), he, hz]
    simp [Result.andThen, sliced, Addr.add]
  · refine ⟨M - m, fun w => ?_, by omega, .inl rfl⟩
    have := run_cut_at (P := P) t e ht hz g 0 M M (M - m) (by omega) (Nat.le_refl _) (by omega) w
    rw [Nat.zero_add, show M - (M - m) = m by omega] at this
    exact this
set_option maxHeartbeats 2000000 in
theorem putS_ok (d : List UInt8) (len n : Nat) (A : Option Addr) (c : Nat) (w : World) (HN : Hid (d.length = len)) (hr : Rd vB w A d) (hc : len ≤ c) (h1 : 1 ≤ n) (h2 : n ≤ 64) (hl : len + n ≤ 255) :
    Calls Try.prog 10 #[.slice A len c, .int .i64 (n : Int)] w (RetE w (putS d n) 0) := by
  obtain ⟨i0, hi, hz0, hz1, hz2⟩ := info_parts info_u8
  have e1 := HN.out
  subst e1
  have HM := Lib.hid (genS_ok n w h1 h2)
  have HNE := Lib.hid (gen_plain_ne n)
  have HG1 := Lib.hid (gen_is n).1
  have HP : Hid (∀ q r, IsQuo (d ++ List.replicate n 0).reverse (genL n) q r → plainL r = r → _) := fun q r a b => putS_quo d q r n h1 hl a b
  have HPL := Lib.hid (putS_length d n h1)
  obtain ⟨F, hF⟩ : ∃ F, putS d n = F := ⟨_, rfl⟩
  rw [hF] at HP HPL ⊢
  clear hF
  have j1 : ¬ (255 : Int) - (n : Int) < (d.length : Int) := by omega
  obtain ⟨M, hM⟩ : ∃ M : Nat, M = d.length + n := ⟨_, rfl⟩
  have m0 : (d.length : Int) + (n : Int) = (M : Int) := by omega
  rw [← hM] at HP HPL
  have hMd : d.length ≤ M := by omega
  have hM2 : M ≤ 255 := by omega
  have HMd : Hid (M - d.length = n) := by unfold Hid; omega
  have hnM : n ≤ M := by omega
  clear hM
  go_enter Try.func10, Try.ntmps10
  go_wp2_with fail
  refine HM.out.mono ?_
  rintro e w1 ⟨A1, n1, c1, rfl, HN1, hc1, hr1, hb1⟩
  have hn1 : n1 ≤ 100 := by rw [← HN1.out, HG1.out]; omega
  generalize genL n = G at HN1 hr1 HNE HP
  replace hr := hr.keep hb1
  clear HM HG1
  go_upto_region 7 with (at_make; refine wpList_make_full _ rfl _ _ 22 rfl w1.heap.size 5 i0 (.int .u8 0) 1 Try.underlying22 hi hz0 hz1 .i64 .i64 _ _ M rfl rfl rfl rfl (by rw [hz2]; omega) (by unfold maxLen; omega) (Nat.le_refl _) ?_; intro w0 hown0 hgrow0)
  rw [Nat.mul_one, show (Value.int .u8 0).cells = #[.int .u8 0] from rfl, toList_madeCells_one, zeros_map] at hown0
  obtain ⟨hc0, _, _⟩ := cel_some hown0 List.length_replicate
  have hB0 : Below w1.heap.size w1 w0 := (Below.refl _ _).grown hgrow0 (Nat.le_refl _) (by simp)
  have hr0 := hr.keep hB0
  have hr10 := hr1.keep hB0
  have hgw : w.heap.size ≤ w1.heap.size := hb1.size
  have hB := below_step hb1 hB0
  have hAG := hr1.apart (Nat.le_refl _)
  generalize hgd : w1.heap.size = g at hc0 hgw hAG ⊢
  clear hown0 hgrow0 hr hr1 m0 hgd
  go_upto_region 8 with (refine wpList_copy_cel rfl (.tmp 30) (.tmp 31) 22 22 rfl 5 Try.underlying22 (by kernel_rfl) g 0 M M A d c rfl rfl (List.replicate M 0) 5 hc0 hr0 hMd (by rw [List.length_replicate]; omega) ?_; intro w3 hc3 ho3)
  have e0 : (List.replicate M (0 : UInt8)).take 0 ++ d ++ (List.replicate M 0).drop (0 + d.length) = d ++ List.replicate n 0 := by
    rw [List.take_zero, List.nil_append, List.drop_replicate, Nat.zero_add, HMd.out]
  rw [e0] at hc3
  have HZL : Hid ((d ++ List.replicate n (0 : UInt8)).length = M) := by
    unfold Hid
    rw [List.length_append, List.length_replicate]
    have := HMd.out
    omega
  have hr13 := hr10.only ho3 hAG
  have hg3 : g < w3.heap.size := hc3.lt
  have hBB := hB.trans (ho3.below.mono hgw)
  generalize d ++ List.replicate n (0 : UInt8) = Z at hc3 HZL HP
  clear e0 hc0 hr0 hr10 hB ho3 hB0
  go_wp2_with fail
  refine (poly_any Z M (some ⟨g, 0, none⟩) M w3 HZL hc3.rd (by omega)).mono ?_
  rintro e w4 ⟨A4, n4, c4, rfl, HN4, hc4, hr4, hb4⟩
  have hn4 : n4 ≤ 255 := by rw [← HN4.out, List.length_reverse, HZL.out]; exact hM2
  have hcel4 := hc3.later hb4
  have hBB4 := below_step hBB hb4
  have hs4 := hb4.size
  generalize Z.reverse = Zr at HN4 hr4 HP
  go_wp2_with fail
  refine (quoP_good Zr G n4 n1 A4 A1 c4 c1 w4 HN4 HN1 hr4 (hr13.keep hb4) hc4 hc1 (by omega) (by omega) HNE).mono ?_
  rintro e w5 ⟨a, r, A5, B5, n5, m5, c5, d5, rfl, HA5, HR5, hn5, hm5, hra, hrr, hb5, HQ⟩
  obtain ⟨hrl, hfin⟩ := HP.out a r HQ.out.1 HQ.out.2.2
  rw [HR5.out] at hrl hfin
  have hcel5 := hcel4.later hb5
  have hBB5 := below_step hBB4 hb5
  have hs5 := hb5.size
  have hmM : m5 ≤ M := by omega
  obtain ⟨off, hcut, hoff1, hoff2⟩ := cut_some (P := Try.prog) 22 5 Try.underlying22 size_uint8 g M m5 hmM
  have mk : (M : Int) - (m5 : Int) = ((M - m5 : Nat) : Int) := by omega
  have mw : IntKind.i64.wrap ((M : Int) - (m5 : Int)) = (M : Int) - (m5 : Int) := by rw [IntKind.wrap_i64]; omega
  rw [← mk] at hcut
  have HF : Hid (Z.take off ++ r.reverse ++ Z.drop (off + r.reverse.length) = F) := by
    unfold Hid
    rw [List.length_reverse, HR5.out]
    rcases hoff2 with e | e
    · rw [e]; exact hfin
    · have er : r = [] := List.eq_nil_of_length_eq_zero (by rw [HR5.out, e])
      rw [er, e] at hfin ⊢
      simp only [List.reverse_nil, List.append_nil, Nat.add_zero, List.take_append_drop] at hfin ⊢
      exact hfin
  have HCUT := Lib.hid hcut
  have HMK := Lib.hid mk
  have HRR : Hid (r.reverse.length = m5) := by unfold Hid; rw [List.length_reverse, HR5.out]
  have hbase5 : Below g w5 w5.drew := (Below.refl _ _).drew
  clear hcut mk hfin hoff2 HQ hra HA5 hcel4 hc3 hr4 HP HNE HN4 HN1 hr13 hb5 hb4 hBB4 hBB hc1 hc4 hn1 hn4 hrl hn5
  go_upto_region 9 with fail
  refine wp_region_plan_at g (.step 0 false (.step 1 false (.step 2 false (.step 3 false (.step 4 false (.step 5 false (.step 6 false (.step 7 false (.step 8 true (.step 9 true (.nil))))))))))) (by kernel_rfl) (by kernel_rfl) (by rfl) (by kernel_rfl) ?_
  have hBase := hbase5
  have hcutW := HCUT.out
  iterate 8 (refine plan_read rfl (by rfl) (v := ?_) ?_ ?_; rotate_left 1; (intro W hW; have hW0 := Below.trans hBase hW; (try dsimp only at hW); go_simp <;> with_reducible rfl); simp only [List.getElem_toArray, List.getElem_cons_zero, List.getElem_cons_succ, Act.put, List.setIfInBounds_toArray, List.set_cons_zero, List.set_cons_succ])
  (refine plan_make_at rfl (by rfl) (fun K hK => ?_); go_simp; refine (poly_any r m5 B5 d5 _ HR5 (hrr.keep (Below.refl _ w5).drew) (by omega)).mono ?_; rintro e w6 ⟨A6, n6, c6, rfl, HN6, hc6, hr6, hb6⟩; have hz6 : w5.heap.size ≤ w6.heap.size := hb6.size; refine hK.out _ _ (hb6.mono (by change g ≤ w5.heap.size; omega)) ?_; clear hK K; replace hBase := hBase.trans (hb6.mono (by change g ≤ w5.heap.size; omega)))
  have hcel6 := hcel5.drew.later hb6
  have hBB6 := below_step hBB5.drew hb6
  generalize r.reverse = T at HN6 hr6 HF HRR
  have e6 := HN6.out
  subst e6
  have hTm : T.length ≤ m5 := Nat.le_of_eq HRR.out
  have hfit : off + T.length ≤ Z.length := by rw [HZL.out, HRR.out]; exact hoff1
  (refine plan_make_at rfl (by rfl) (fun K hK => ?_); refine wp_copy_cel (.tmp 47) (.tmp 49) 22 22 rfl 5 Try.underlying22 (by kernel_rfl) g off m5 m5 A6 T c6 rfl rfl Z 5 hcel6 hr6 hTm hfit ?_; intro w7 hc7 ho7; refine hK.out _ _ ho7.below ?_; clear hK K)
  refine plan_done ?_
  rw [HF.out] at hc7
  have hrF := hc7.rd
  have hBF := hBB6.trans (ho7.below.mono hgw)
  clear hcel6 hcel5 hc7 ho7 hBase
  go_wp2_with fail
  go_ret2
  exact ⟨_, M, M, rfl, HPL.out, Nat.le_refl _, hrF, hBF⟩
theorem putS_no (d : List UInt8) (len : Nat) (n : Int) (A : Option Addr) (c : Nat) (w : World) (HN : Hid (d.length = len)) (hr : Rd vB w A d) (hc : len ≤ c) (hl : len ≤ 100000) (h : n < 1 ∨ 64 < n) :
    Calls Try.prog 10 #[.slice A len c, .int .i64 n] w (RetE w [] 1) := by
  have HM := Lib.hid (genS_no n w h)
  clear h
  go_enter Try.func10, Try.ntmps10
  go_wp2_with fail
  refine HM.out.mono ?_
  rintro e w1 ⟨A1, n1, c1, rfl, HN1, hc1, hr1, hb1⟩
  go_wp2_with fail
  go_ret2
  exact ⟨none, 0, 0, rfl, Lib.hid rfl, Nat.le_refl _, Rd.nil, hb1⟩
theorem putS_long (d : List UInt8) (len n : Nat) (A : Option Addr) (c : Nat) (w : World) (HN : Hid (d.length = len)) (hr : Rd vB w A d) (hc : len ≤ c) (h1 : 1 ≤ n) (h2 : n ≤ 64) (hl : 255 < len + n) (hl2 : len ≤ 100000) :
    Calls Try.prog 10 #[.slice A len c, .int .i64 (n : Int)] w (RetE w [] 4) := by
  have HM := Lib.hid (genS_ok n w h1 h2)
  have j1 : (255 : Int) - (n : Int) < (len : Int) := by omega
  go_enter Try.func10, Try.ntmps10
  go_wp2_with fail
  refine HM.out.mono ?_
  rintro e w1 ⟨A1, n1, c1, rfl, HN1, hc1, hr1, hb1⟩
  go_wp2_with fail
  go_ret2
  exact ⟨none, 0, 0, rfl, Lib.hid rfl, Nat.le_refl _, Rd.nil, hb1⟩

/-! ### Signs, Fine -/
def SigRel (b : List UInt8) (n g : Nat) (w : World) (i : Value) (wr : World) : Prop :=
  ∃ (k : Nat) (T : List UInt8), k ≤ n ∧ i = .int .i64 (k : Int) ∧ T.length = n ∧ (∀ j, j < k → co T j = sigF b j) ∧ Cel wr g 5 T ∧ Below w.heap.size w wr
set_option maxHeartbeats 2000000 in
theorem signsS_ok (b : List UInt8) (len n : Nat) (A : Option Addr) (c : Nat) (w : World) (HN : Hid (b.length = len)) (hr : Rd vB w A b) (hc : len ≤ c) (h1 : 1 ≤ n) (h2 : n ≤ 64) (h3 : n ≤ len) (h4 : len ≤ 255) :
    Calls Try.prog 12 #[.slice A len c, .int .i64 (n : Int)] w (RetE w (signsL b n) 0) := by
  obtain ⟨i0, hi, hz0, hz1, hz2⟩ := info_parts info_u8
  have HM := Lib.hid (maybe_yes n w h1 h2)
  have j1 : ¬ (len : Int) < (n : Int) := by omega
  have j2 : ¬ (255 : Int) < (len : Int) := by omega
  go_enter Try.func12, Try.ntmps12
  go_wp2_with fail
  refine HM.out.mono ?_
  rintro e w1 ⟨rfl, rfl⟩
  go_wp2_with fail
  refine (poly_any b len A c w HN hr (by omega)).mono ?_
  rintro e w2 ⟨A2, n2, c2, rfl, HN2, hc2, hr2, hb2⟩
  have hn2 : n2 ≤ 255 := by rw [← HN2.out, List.length_reverse, HN.out]; exact h4
  have hgw := hb2.size
  clear j1 j2 HM
  go_upto_region 9 with (at_make; refine wpList_make_full _ rfl _ _ 22 rfl w2.heap.size 5 i0 (.int .u8 0) 1 Try.underlying22 hi hz0 hz1 .i64 .i64 _ _ n rfl rfl rfl rfl (by rw [hz2]; omega) (by unfold maxLen; omega) (Nat.le_refl _) ?_; intro w0 hown0 hgrow0)
  rw [Nat.mul_one, show (Value.int .u8 0).cells = #[.int .u8 0] from rfl, toList_madeCells_one, zeros_map] at hown0
  obtain ⟨hc0, _, _⟩ := cel_some hown0 List.length_replicate
  have hB0 : Below w2.heap.size w2 w0 := (Below.refl _ _).grown hgrow0 (Nat.le_refl _) (by simp)
  generalize hgd : w2.heap.size = g at hc0 ⊢
  have hgl : w2.heap.size ≤ g := Nat.le_of_eq hgd
  clear hown0 hgrow0
  go_wp2_with fail
  go_loopw [28] (fun i wr => SigRel b n g w2 i wr) (fun i _ => n - (intOf i).toNat)
  case atStart => exact ⟨0, List.replicate n 0, Nat.zero_le _, rfl, List.length_replicate, fun j hj => absurd hj (Nat.not_lt_zero j), hc0, hB0⟩
  case round =>
    clear hc0 hB0
    obtain ⟨k, T, hk, rfl, hT, hS, hcel, hB⟩ := hrel
    by_cases h : k < n
    · have k1 : (k : Int) < (n : Int) := by omega
      have k0 : (0 : Int) ≤ (k : Int) := by omega
      obtain ⟨x, hx⟩ : ∃ x, powB 2 (k + 1) = x := ⟨_, rfl⟩
      have HX := Lib.hid hx
      obtain ⟨y, hy⟩ : ∃ y, sigF b k = y := ⟨_, rfl⟩
      have HE : Hid (evalL b.reverse x = y) := by rw [← hx, ← hy]; rfl
      have hEv := fun W (hW : Below w2.heap.size w2 W) => evalP_any b.reverse x n2 A2 c2 W HN2 (hr2.keep hW) hc2 (by omega)
      rw [HE.out] at hEv
      have HEv := Lib.hid hEv
      have HS : Hid (∀ W, Cel W g 5 (T.set k y) → Below w2.heap.size w2 W → SigRel b n g w2 (.int .i64 ((k : Int) + 1)) W) := fun W h1 h2 =>
        ⟨k + 1, T.set k y, h, by go_num, by rw [List.length_set]; exact hT, fun j hj => by
          rw [co_set _ _ _ _ (by omega)]
          split
          · next e => rw [e, hy]
          · exact hS j (by omega), h1, h2⟩
      have hkT : k < T.length := by omega
      clear hEv hx hy hS
      go_wp2_with fail
      refine (place_any k x _ (by omega) HX).mono ?_
      rintro e w3 ⟨rfl, rfl⟩
      go_wp2_with fail
      refine (HEv.out _ hB).mono ?_
      rintro e w4 ⟨rfl, hb4⟩
      have hcel4 := hcel.later hb4
      have hB4 := below_step hB hb4
      have hc4 := hcel4.get k hkT
      have hf4 := hcel4.frozen k
      have HR := Lib.hid (HS.out _ (hcel4.set k y) (hB4.setCell (p := ⟨g, k, none⟩) hgl (.int .u8 (y.toNat : Int))))
      clear hcel hB hcel4 hB4 hb4
      go_wp2_with fail
      go_roundw
      case rel => exact HR.out
      case measure => simp [intOf] <;> omega
    · have ek : k = n := by omega
      subst ek
      have j1 : ¬ (k : Int) < (k : Int) := by omega
      have HT : Hid (T = signsL b k) := by
        rw [← signs_tab]
        refine co_ext (by rw [hT, signs_tab, signs_length]) (fun j hj => ?_)
        rw [hT] at hj
        rw [hS j hj, signs_tab, co_lt _ j (by rw [signs_length]; exact hj)]
        simp [signsL, sigF]
      have hBw := below_step hb2 hB
      have hrT := hcel.rd
      rw [HT.out] at hrT hT
      have HTL := Lib.hid hT
      clear hT hS hcel hB
      go_wp2_with fail
      go_ret2
      exact ⟨_, k, k, rfl, HTL, Nat.le_refl _, hrT, hBw⟩
theorem signsS_no (b : List UInt8) (len : Nat) (n : Int) (A : Option Addr) (c : Nat) (w : World) (HN : Hid (b.length = len)) (hr : Rd vB w A b) (hc : len ≤ c) (hl : len ≤ 100000) (h : Hid (errS len n ≠ 0)) :
    Calls Try.prog 12 #[.slice A len c, .int .i64 n] w (RetE w [] (errS len n)) := by
  have hE := h.out
  unfold errS at hE ⊢
  by_cases h1 : n < 1 ∨ 64 < n
  · rw [if_pos h1]
    have HM := Lib.hid (maybe_no n w h1)
    clear hE h1 h
    go_enter Try.func12, Try.ntmps12
    go_wp2_with fail
    refine HM.out.mono ?_
    rintro e w1 ⟨rfl, rfl⟩
    go_wp2_with fail
    go_ret2
    exact ⟨none, 0, 0, rfl, Lib.hid rfl, Nat.le_refl _, Rd.nil, Below.refl _ _⟩
  · rw [if_neg h1] at hE ⊢
    obtain ⟨m, rfl⟩ : ∃ m : Nat, n = (m : Int) := ⟨n.toNat, by omega⟩
    have HM := Lib.hid (maybe_yes m w (by omega) (by omega))
    by_cases h2 : (len : Int) < (m : Int)
    · rw [if_pos h2]
      clear hE h1 h
      go_enter Try.func12, Try.ntmps12
      go_wp2_with fail
      refine HM.out.mono ?_
      rintro e w1 ⟨rfl, rfl⟩
      go_wp2_with fail
      go_ret2
      exact ⟨none, 0, 0, rfl, Lib.hid rfl, Nat.le_refl _, Rd.nil, Below.refl _ _⟩
    · rw [if_neg h2] at hE ⊢
      by_cases h4 : 255 < len
      · rw [if_pos h4]
        have j4 : (255 : Int) < (len : Int) := by omega
        clear hE h1 h
        go_enter Try.func12, Try.ntmps12
        go_wp2_with fail
        refine HM.out.mono ?_
        rintro e w1 ⟨rfl, rfl⟩
        go_wp2_with fail
        go_ret2
        exact ⟨none, 0, 0, rfl, Lib.hid rfl, Nat.le_refl _, Rd.nil, Below.refl _ _⟩
      · rw [if_neg h4] at hE
        exact absurd rfl hE
theorem all_zero_eq (n : Nat) : ∀ l : List UInt8, l.length = n → decide (l = List.replicate n 0) = l.all (· == 0) := fun l hl => by
  rw [Bool.eq_iff_iff, decide_eq_true_eq, List.all_eq_true]
  constructor
  · rintro rfl x hx
    rw [(List.mem_replicate.1 hx).2]
    rfl
  · intro h
    exact List.eq_replicate_iff.2 ⟨hl, fun x hx => by simpa using h x hx⟩
theorem fineS_any (b : List UInt8) (len : Nat) (n : Int) (A : Option Addr) (c : Nat) (w : World) (HN : Hid (b.length = len)) (hr : Rd vB w A b) (hc : len ≤ c) (hl : len ≤ 100000) :
    Calls Try.prog 11 #[.slice A len c, .int .i64 n] w fun e w' => e = .returned (.bool (fineS b n)) ∧ Below w.heap.size w w' := by
  by_cases h0 : errS len n = 0
  · obtain ⟨m, rfl, h1, h2, h3, h4⟩ := errS_cases len n h0
    have HF : Hid (fineS b (m : Int) = decide (signsL b m = List.replicate m 0)) := by
      unfold Hid fineS
      rw [HN.out, h0, all_zero_eq m _ (signs_length b m)]
      rfl
    have HM := Lib.hid (signsS_ok b len m A c w HN hr hc h1 h2 h3 h4)
    rw [HF.out]
    clear h0
    go_enter Try.func11, Try.ntmps11
    go_wp2_with fail
    refine HM.out.mono ?_
    rintro e w1 ⟨A1, n1, c1, rfl, HN1, hc1, hr1, hb1⟩
    obtain ⟨i0, hi, hz0, hz1, hz2⟩ := info_parts info_u8
    have hmk := run_makeSlice (P := Try.prog) (w := w1) 22 5 i0 (.int .u8 0) Try.underlying22 hi hz0 .i64 .i64 (m : Int) (m : Int) (by omega) (Int.le_refl _) (by rw [hz1]; omega) (by rw [hz2]; omega) (by omega)
    rw [hz1, Int.toNat_natCast, Nat.mul_one] at hmk
    have hZ : madeCells (Value.int .u8 0).cells m = ((List.replicate m (0 : UInt8)).map vB).toArray := by
      apply Array.toList_inj.1
      rw [show (Value.int .u8 0).cells = #[.int .u8 0] from rfl, toList_madeCells_one, zeros_map]
    rw [hZ] at hmk
    have hrz := Rd.new (f := vB) w1 (List.replicate m (0 : UInt8)) _ 5 rfl
    have hB1 := below_new (Below.refl _ w1) (.cells ((List.replicate m (0 : UInt8)).map vB).toArray 5)
    have hr1' := hr1.keep hB1
    have hBB := below_step hb1 hB1
    have HZL : Hid ((List.replicate m (0 : UInt8)).length = m) := List.length_replicate
    generalize hZe : List.replicate m (0 : UInt8) = Z at hmk hrz hB1 hr1' hBB HZL ⊢
    have HZE := Lib.hid hZe
    have HRZ := Lib.hid hrz
    have HR1 := Lib.hid hr1'
    have HBB := Lib.hid hBB
    clear hrz hr1' hBB hB1 hZ hZe
    go_wp2_with fail
    refine (equal_any (signsL b m) Z n1 m A1 _ c1 m _ HN1 HZL HR1.out HRZ.out).mono ?_
    rintro e w2 ⟨rfl, rfl⟩
    obtain ⟨r, hr0⟩ : ∃ r, decide (signsL b m = Z) = r := ⟨_, rfl⟩
    have HD := Lib.hid hr0
    rw [hr0]
    clear hr0
    go_wp2_with fail
    go_ret
    exact ⟨by rw [HZE.out, HD.out]; rfl, HBB.out⟩
  · have HM := Lib.hid (signsS_no b len n A c w HN hr hc hl (Lib.hid h0))
    have HF : Hid (fineS b n = false) := by
      unfold Hid fineS
      rw [HN.out, decide_eq_false h0]
      rfl
    rw [HF.out]
    generalize errS len n = k at HM h0
    have hk : (k == 0) = false := beq_eq_false_iff_ne.2 h0
    clear h0
    go_enter Try.func11, Try.ntmps11
    go_wp2_with fail
    refine HM.out.mono ?_
    rintro e w1 ⟨A1, n1, c1, rfl, HN1, hc1, hr1, hb1⟩
    go_wp2_with fail
    go_ret
    exact ⟨rfl, hb1⟩
end Go.Proofs.Ytankddeolpickaa
/-
  In how many places two are unlike (plain). No conditions but those typed.
-/
namespace Go.Proofs.Ytankddeolpickaa
set_option maxRecDepth 100000
set_option linter.unusedVariables false
set_option linter.unusedSimpArgs false

theorem wt_cons (c : UInt8) (b : List UInt8) : wtL (c :: b) = (if c = 0 then 0 else 1) + wtL b := by
  unfold wtL
  by_cases h : c = 0
  · subst h
    rw [List.filter_cons_of_neg (by simp), if_pos rfl, Nat.zero_add]
  · rw [List.filter_cons_of_pos (by simpa using h), if_neg h, List.length_cons, Nat.add_comm]
theorem dif_nil_left (b : List UInt8) : difL [] b = 0 := by simp [difL, wtL]
theorem dif_cons (x y : UInt8) (a b : List UInt8) : difL (x :: a) (y :: b) = (if addB x y = 0 then 0 else 1) + difL a b := by
  unfold difL
  rw [List.zipWith_cons_cons, wt_cons]
theorem dif_set : ∀ (a b : List UInt8) (q : Nat) (z : UInt8), difL a (b.set q z) ≤ difL a b + 1
  | [], b, q, z => by rw [dif_nil_left]; omega
  | x :: a, [], q, z => by simp [difL, wtL]
  | x :: a, y :: b, 0, z => by
    rw [List.set_cons_zero, dif_cons, dif_cons]
    split <;> split <;> omega
  | x :: a, y :: b, q + 1, z => by
    rw [List.set_cons_succ, dif_cons, dif_cons]
    have := dif_set a b q z
    omega
theorem dif_self (a : List UInt8) : difL a a = 0 := by
  unfold difL
  rw [zip_self, wt_zeros]
end Go.Proofs.Ytankddeolpickaa
/-
  Layer 10 as plain mathematics: what bytes are mended to is told by Euclid's way to a finder, and Forney's values at its roots. No conditions but those typed.
-/
namespace Go.Proofs.Ytankddeolpickaa
set_option maxRecDepth 100000
set_option linter.unusedVariables false
set_option linter.unusedSimpArgs false

/-! ### Mended -/
/-- These are fine, and near enough. -/
def Near (b : List UInt8) (n : Nat) (a : List UInt8) : Prop := a.length = b.length ∧ fineP a n ∧ difL b a ≤ n / 2
theorem dif_comm (a b : List UInt8) : difL a b = difL b a := by
  unfold difL
  rw [List.zipWith_comm]
  congr 1
  congr 1
  funext x y
  exact add_comm _ _
theorem dif_tri : ∀ a b c : List UInt8, a.length = b.length → b.length = c.length → difL a c ≤ difL a b + difL b c
  | [], [], [], _, _ => by simp [difL, wtL]
  | [], _ :: _, _, h, _ => by simp at h
  | [], [], _ :: _, _, h => by simp at h
  | _ :: _, [], _, h, _ => by simp at h
  | _ :: _, _ :: _, [], _, h => by simp at h
  | x :: a, y :: b, z :: c, h, g => by
    have ih := dif_tri a b c (by simpa using h) (by simpa using g)
    rw [dif_cons, dif_cons, dif_cons]
    by_cases h1 : addB x y = 0
    · by_cases h2 : addB y z = 0
      · have e1 := add_zero_eq h1
        have e2 := add_zero_eq h2
        rw [if_pos (by rw [e1, e2, add_self])]
        omega
      · rw [if_pos h1, if_neg h2]
        split <;> omega
    · rw [if_neg h1]
      split <;> split <;> omega
theorem dif_zero {a b : List UInt8} (hl : a.length = b.length) (h : difL a b = 0) : a = b := by
  refine zip_zero a b hl (fun c hc => ?_)
  unfold difL wtL at h
  have := List.eq_nil_of_length_eq_zero h
  rw [List.filter_eq_nil_iff] at this
  simpa using this c hc
theorem near_unique {b a c : List UInt8} {n : Nat} (hl : b.length ≤ 255) (h : Near b n a) (g : Near b n c) : a = c := by
  obtain ⟨h1, h2, h3⟩ := h
  obtain ⟨g1, g2, g3⟩ := g
  refine fine_unique a c n (by omega) (by omega) h2 g2 ?_
  have := dif_tri a b c h1 (by omega)
  rw [dif_comm a b] at this
  omega
theorem near_self {b : List UInt8} {n : Nat} (h : fineP b n) : Near b n b := ⟨rfl, h, by rw [dif_self]; omega⟩

/-! ### Products, so far as some power -/
/-- Alike below a power. -/
def Low (n : Nat) (p q : List UInt8) : Prop := ∀ k, k < n → co p k = co q k
theorem Low.trans {n : Nat} {p q r : List UInt8} (h : Low n p q) (g : Low n q r) : Low n p r := fun k hk => (h k hk).trans (g k hk)
theorem Low.symm {n : Nat} {p q : List UInt8} (h : Low n p q) : Low n q p := fun k hk => (h k hk).symm
theorem Eqv.low {p q : List UInt8} (h : Eqv p q) (n : Nat) : Low n p q := fun k _ => h k
theorem Low.add {n : Nat} {p q p' q' : List UInt8} (h : Low n p p') (g : Low n q q') : Low n (addL p q) (addL p' q') := fun k hk => by rw [co_add, co_add, h k hk, g k hk]
theorem Low.cons {n : Nat} (a : UInt8) {p q : List UInt8} (h : Low n p q) : Low n (a :: p) (a :: q) := fun k hk => by
  cases k with
  | zero => rfl
  | succ k => rw [co_succ, co_succ, h k (by omega)]
theorem Low.scale {n : Nat} (a : UInt8) {p q : List UInt8} (h : Low n p q) : Low n (scaleL a p) (scaleL a q) := fun k hk => by rw [co_scale, co_scale, h k hk]
theorem Low.mul {n : Nat} {q q' : List UInt8} (h : Low n q q') : ∀ p : List UInt8, Low n (mulL p q) (mulL p q')
  | [] => fun _ _ => rfl
  | a :: p => (h.scale a).add ((h.mul p).cons 0)
/-- How many coefficients. -/
def pl (p : List UInt8) : Nat := (plainL p).length
theorem pl_le_iff (p : List UInt8) (n : Nat) : pl p ≤ n ↔ ∀ k, n ≤ k → co p k = 0 := plain_le_iff p n
theorem pl_congr {p q : List UInt8} (h : Eqv p q) : pl p = pl q := by unfold pl; rw [plain_congr h]
theorem pl_len (p : List UInt8) : pl p ≤ p.length := plain_len p
theorem pl_zero {p : List UInt8} (h : pl p = 0) : Eqv p [] := fun k => by rw [co_nil]; exact (pl_le_iff p 0).1 (by omega) k (Nat.zero_le _)
theorem pl_add (p q : List UInt8) : pl (addL p q) ≤ max (pl p) (pl q) := plain_add_len p q
theorem pl_mul (p q : List UInt8) : pl (mulL p q) ≤ pl p + pl q - 1 := by
  by_cases hp : plainL p = []
  · have : Eqv (mulL p q) [] := (mul_congr (pl_zero (p := p) (by unfold pl; rw [hp]; rfl)) (Eqv.refl q)).trans (Eqv.refl _)
    rw [pl_congr this]
    exact Nat.zero_le _
  · by_cases hq : plainL q = []
    · have : Eqv (mulL p q) [] := (mul_congr (Eqv.refl p) (pl_zero (p := q) (by unfold pl; rw [hq]; rfl))).trans (mulL_nil p)
      rw [pl_congr this]
      exact Nat.zero_le _
    · exact Nat.le_of_eq (mul_plain_len p q hp hq)
theorem pl_mul_eq (p q : List UInt8) (hp : 0 < pl p) (hq : 0 < pl q) : pl (mulL p q) = pl p + pl q - 1 := mul_plain_len p q (List.length_pos_iff.1 hp) (List.length_pos_iff.1 hq)

/-! ### Roots -/
/-- Divided by 'r + x'. -/
def synL (r : UInt8) : List UInt8 → List UInt8
  | [] => []
  | [_] => []
  | _ :: d :: p => evalL (d :: p) r :: synL r (d :: p)
theorem syn_is (r : UInt8) : ∀ p : List UInt8, p ≠ [] → (synL r p).length + 1 = p.length ∧ ∀ x, evalL p x = addB (mulB (addB r x) (evalL (synL r p) x)) (evalL p r)
  | [], h => absurd rfl h
  | [c], _ => ⟨rfl, fun x => by simp only [synL, evalL, mul_zero, add_zero, zero_add]⟩
  | c :: d :: p, _ => by
    obtain ⟨h1, h2⟩ := syn_is r (d :: p) (by simp)
    refine ⟨by simp only [synL, List.length_cons] at h1 ⊢; omega, fun x => ?_⟩
    have e := h2 x
    have hs : synL r (c :: d :: p) = evalL (d :: p) r :: synL r (d :: p) := rfl
    rw [hs]
    generalize synL r (d :: p) = q at e
    generalize d :: p = dp at e
    rw [evalL, evalL, evalL, e]
    generalize evalL dp r = v
    generalize evalL q x = y
    simp only [mul_add_right, mul_add_left]
    have e1 : mulB x (mulB r y) = mulB r (mulB x y) := by rw [← mul_assoc, mul_comm x r, mul_assoc]
    rw [e1]
    generalize mulB r (mulB x y) = A
    generalize mulB x (mulB x y) = B
    generalize mulB x v = C
    generalize mulB r v = D
    unfold addB
    have h : C ^^^ (D ^^^ (A ^^^ (B ^^^ (c ^^^ D)))) = c ^^^ (A ^^^ (B ^^^ C)) ^^^ (D ^^^ D) := by ac_rfl
    rw [UInt8.xor_self, UInt8.xor_zero] at h
    calc c ^^^ (A ^^^ B ^^^ C) = c ^^^ (A ^^^ (B ^^^ C)) := by ac_rfl
      _ = C ^^^ (D ^^^ (A ^^^ (B ^^^ (c ^^^ D)))) := h.symm
      _ = _ := by ac_rfl
theorem eval_all_zero : ∀ (R : List UInt8) (p : List UInt8), R.Nodup → p.length ≤ R.length → (∀ r ∈ R, evalL p r = 0) → ∀ x, evalL p x = 0
  | _, [], _, _, _, x => rfl
  | [], c :: p, _, h, _, _ => by simp at h
  | r :: R, c :: p, hd, hl, h, x => by
    obtain ⟨h1, h2⟩ := syn_is r (c :: p) (by simp)
    have hr := h r List.mem_cons_self
    rw [List.nodup_cons] at hd
    have hq : ∀ s ∈ R, evalL (synL r (c :: p)) s = 0 := fun s hs => by
      have e := h2 s
      rw [hr, add_zero, h s (List.mem_cons_of_mem _ hs)] at e
      rcases (mul_eq_zero _ _).1 e.symm with g | g
      · exact absurd (add_zero_eq g ▸ hs) hd.1
      · exact g
    rw [h2 x, hr, add_zero, eval_all_zero R _ hd.2 (by simp only [List.length_cons] at hl h1; omega) hq x, mul_zero]
theorem eqv_all_zero : ∀ (R : List UInt8) (p : List UInt8), R.Nodup → p.length ≤ R.length → (∀ r ∈ R, evalL p r = 0) → ∀ k, co p k = 0
  | _, [], _, _, _, k => co_nil k
  | [], c :: p, _, h, _, _ => by simp at h
  | r :: R, c :: p, hd, hl, h, k => by
    have hr := h r List.mem_cons_self
    have hd' := List.nodup_cons.1 hd
    obtain ⟨h1, h2⟩ := syn_is r (c :: p) (by simp)
    have hq : ∀ s ∈ R, evalL (synL r (c :: p)) s = 0 := fun s hs => by
      have e := h2 s
      rw [hr, add_zero, h s (List.mem_cons_of_mem _ hs)] at e
      rcases (mul_eq_zero _ _).1 e.symm with g | g
      · exact absurd (add_zero_eq g ▸ hs) hd'.1
      · exact g
    have hs := eqv_all_zero R _ hd'.2 (by simp only [List.length_cons] at hl h1; omega) hq
    -- the coefficients of what is divided are told by those of the quotient
    have key : ∀ (p : List UInt8), evalL p r = 0 → (∀ j, co (synL r p) j = 0) → ∀ j, co p j = 0 := by
      intro p
      induction p with
      | nil => intro _ _ j; exact co_nil j
      | cons a p ih =>
        intro he hz j
        match p, ih, he, hz with
        | [], _, he, _ =>
          rw [evalL, evalL, mul_zero, add_zero] at he
          rw [he]
          rw [zero_cons j, co_nil]
        | d :: p, ih, he, hz =>
          have h0 : evalL (d :: p) r = 0 := hz 0
          have hz' : ∀ j, co (synL r (d :: p)) j = 0 := fun j => by
            have := hz (j + 1)
            rwa [synL, co_succ] at this
          rw [evalL, h0, mul_zero, add_zero] at he
          cases j with
          | zero => rw [co_zero]; exact he
          | succ j => rw [co_succ]; exact ih h0 hz' j
    exact key _ hr hs k
/-- No more roots than coefficients but one, or it is nothing. -/
theorem roots_zero (R : List UInt8) (p : List UInt8) (hd : R.Nodup) (hl : pl p ≤ R.length) (h : ∀ r ∈ R, evalL p r = 0) : Eqv p [] := fun k => by
  rw [← plain_eqv p k, co_nil]
  exact eqv_all_zero R (plainL p) hd hl (fun r hr => by rw [eval_congr (plain_eqv p) r]; exact h r hr) k

/-! ### Euclid's way -/
def xN (n : Nat) : List UInt8 := List.replicate n 0 ++ [1]
theorem xN_eval (n : Nat) (r : UInt8) : evalL (xN n) r = powB r n := by
  unfold xN
  rw [eval_snoc, eval_zeros, zero_add, one_mul, List.length_replicate]
theorem xN_low (n : Nat) : Low n (xN n) [] := fun k hk => by
  unfold xN co
  rw [List.getD_eq_getElem?_getD, List.getElem?_append_left (by simpa using hk), List.getElem?_replicate, if_pos hk]
  rfl
theorem xN_length (n : Nat) : (xN n).length = n + 1 := by simp [xN]
theorem xN_pl (n : Nat) : pl (xN n) = n + 1 := by
  unfold pl
  rw [plain_of_top (xN n) (.inr ?_), xN_length]
  rw [xN_length, Nat.add_sub_cancel]
  unfold xN co
  rw [List.getD_eq_getElem?_getD, List.getElem?_append_right (by simp), List.length_replicate, Nat.sub_self]
  decide
/-- What is kept on the way. -/
structure Euc (n : Nat) (S ahead left fa f : List UInt8) : Prop where
  key : Low n (mulL f S) left
  keyA : Low n (mulL fa S) ahead
  det : Eqv (addL (mulL f ahead) (mulL fa left)) (xN n)
  deg : pl f + pl ahead ≤ n + 2
  degA : pl fa + pl ahead ≤ n + 2
  less : pl left < pl ahead
  big : n - n / 2 < pl ahead
theorem euc_start (n : Nat) (S : List UInt8) (hS : S.length = n) : Euc n S (xN n) S [] [1] where
  key := fun k _ => by rw [mulL_comm [1] S k, mulL_one_right 1 S k, scale_one]
  keyA := fun k hk => by rw [xN_low n k hk]; rfl
  det := fun k => by
    rw [co_add, mulL_comm [1] _ k, mulL_one_right 1 _ k, scale_one]
    show addB _ (co [] k) = _
    rw [co_nil, add_zero]
  deg := by rw [xN_pl]; exact Nat.le_of_eq (by show (plainL [1]).length + _ = _; rw [show plainL [1] = [1] by decide]; simp; omega)
  degA := by rw [xN_pl]; show (plainL []).length + _ ≤ _; rw [show plainL [] = [] by rfl]; simp
  less := by rw [xN_pl]; have := pl_len S; omega
  big := by rw [xN_pl]; omega
theorem Euc.step {n : Nat} {S ahead left fa f a r f' : List UInt8} (h : Euc n S ahead left fa f) (hq : IsQuo ahead left a r) (hl : n - n / 2 < pl left) (hf : Eqv f' (addL fa (mulL a f))) : Euc n S left r f f' := by
  have hr : pl r < pl left := hq.2
  have h1 := h.less
  have h2 := h.deg
  have h3 := h.degA
  -- what is left is what is ahead, and so often what was left
  have er : Eqv r (addL ahead (mulL a left)) := fun k => by
    have := hq.1 k
    rw [co_add] at this
    rw [co_add, ← this, add_comm (co (mulL a left) k), add_assoc, add_self, add_zero]
  have ea : pl a + pl left ≤ pl ahead + 1 := by
    by_cases h0 : pl a = 0
    · omega
    · have e1 : pl (mulL a left) = pl a + pl left - 1 := pl_mul_eq a left (by omega) (by omega)
      have e2 : Eqv (mulL a left) (addL ahead r) := fun k => by
        have := hq.1 k
        rw [co_add] at this
        rw [co_add, ← this, add_assoc, add_self, add_zero]
      have e3 := pl_add ahead r
      rw [pl_congr e2] at e1
      omega
  constructor
  · refine Low.trans ((mul_congr hf (Eqv.refl S)).low n) (Low.trans ((mulL_add_left fa (mulL a f) S).low n) (Low.trans ?_ (er.symm.low n)))
    refine h.keyA.add (Low.trans ((mulL_assoc a f S).low n) (h.key.mul a))
  · exact h.key
  · -- the determinant
    intro k
    have e1 : co (mulL f' left) k = addB (co (mulL fa left) k) (co (mulL (mulL a f) left) k) := by
      rw [mul_congr hf (Eqv.refl left) k, mulL_add_left fa (mulL a f) left k, co_add]
    have e2 : co (mulL f r) k = addB (co (mulL f ahead) k) (co (mulL f (mulL a left)) k) := by
      rw [mul_congr (Eqv.refl f) er k, mulL_add_right f ahead (mulL a left) k, co_add]
    have e3 : co (mulL f (mulL a left)) k = co (mulL (mulL a f) left) k := by
      rw [← mulL_assoc f a left k]
      exact mul_congr (mulL_comm f a) (Eqv.refl left) k
    have e4 := h.det k
    rw [co_add] at e4
    rw [co_add, e1, e2, e3, ← e4]
    generalize co (mulL (mulL a f) left) k = u
    generalize co (mulL f ahead) k = x
    generalize co (mulL fa left) k = y
    rw [add_comm x u, ← add_assoc, add_assoc y u u, add_self, add_zero, add_comm]
  · have e1 : pl f' ≤ max (pl fa) (pl a + pl f - 1) := by
      rw [pl_congr hf]
      exact Nat.le_trans (pl_add _ _) (by have := pl_mul a f; omega)
    omega
  · omega
  · exact hr
  · exact hl
/-- There is always more to it than nothing. -/
theorem Euc.notzero {n : Nat} {S ahead left fa f : List UInt8} (h : Euc n S ahead left fa f) (r : UInt8) (hr : r ≠ 0) (h1 : evalL f r = 0) (h2 : evalL left r = 0) : False := by
  have e := eval_congr h.det r
  rw [eval_add, eval_mul, eval_mul, h1, h2, zero_mul, mul_zero, add_zero, xN_eval] at e
  exact pow_ne r hr n e.symm

/-! ### The finder of some places, and what their values are -/
def sigL : List (UInt8 × UInt8) → List UInt8
  | [] => [1]
  | (_, x) :: t => mulL [1, x] (sigL t)
def omL : List (UInt8 × UInt8) → List UInt8
  | [] => []
  | (e, x) :: t => addL (scaleL (mulB e x) (sigL t)) (mulL [1, x] (omL t))
def sumsL (E : List (UInt8 × UInt8)) (n : Nat) : List UInt8 := (List.range n).map fun i => sumV E (i + 1)
theorem co_range (f : Nat → UInt8) (n k : Nat) (h : k < n) : co ((List.range n).map f) k = f k := by
  rw [co_lt _ k (by simpa using h)]
  simp
theorem co_lin (x : UInt8) (p : List UInt8) (k : Nat) : co (mulL [1, x] p) k = addB (co p k) (if k = 0 then 0 else mulB x (co p (k - 1))) := by
  have e : Eqv (mulL [1, x] p) (addL p (0 :: scaleL x p)) := fun j => by
    rw [mulL, co_add, co_add, co_scale, one_mul]
    congr 1
    cases j with
    | zero => rfl
    | succ j =>
      rw [co_succ, co_succ, mulL_comm [x] p j, mulL_one_right x p j]
  rw [e k, co_add]
  cases k with
  | zero => rfl
  | succ k => rw [co_succ, co_scale, if_neg (by omega), Nat.add_sub_cancel]
theorem sig_pl : ∀ E : List (UInt8 × UInt8), pl (sigL E) ≤ E.length + 1
  | [] => by show (plainL [1]).length ≤ 1; decide
  | (e, x) :: t => by
    have h1 := sig_pl t
    have h2 := pl_mul [1, x] (sigL t)
    have h3 := pl_len [1, x]
    simp only [List.length_cons, List.length_nil] at h3 ⊢
    show pl (mulL [1, x] (sigL t)) ≤ _
    omega
theorem om_pl : ∀ E : List (UInt8 × UInt8), pl (omL E) ≤ E.length
  | [] => Nat.le_refl 0
  | (e, x) :: t => by
    have h1 := om_pl t
    have h2 := pl_mul [1, x] (omL t)
    have h3 := pl_len [1, x]
    have h4 := sig_pl t
    have h5 := pl_add (scaleL (mulB e x) (sigL t)) (mulL [1, x] (omL t))
    have h6 : pl (scaleL (mulB e x) (sigL t)) ≤ pl (sigL t) := (pl_le_iff _ _).2 fun k hk => by rw [co_scale, (pl_le_iff _ _).1 (Nat.le_refl _) k hk, mul_zero]
    simp only [List.length_cons, List.length_nil] at h3 ⊢
    show pl (addL (scaleL (mulB e x) (sigL t)) (mulL [1, x] (omL t))) ≤ _
    omega
/-- The finder times the signs is the values' polynomial, below as many powers as there are signs. -/
theorem key_eq (n : Nat) : ∀ E : List (UInt8 × UInt8), Low n (mulL (sigL E) (sumsL E n)) (omL E)
  | [] => fun k hk => by
    rw [sigL, mulL_comm [1] _ k, mulL_one_right 1 _ k, scale_one, omL, co_nil]
    unfold sumsL
    rw [co_range _ _ _ hk]
    rfl
  | (e, x) :: t => by
    have ih := key_eq n t
    -- the sums of one more
    have hs : Low n (sumsL ((e, x) :: t) n) (addL (scaleL e ((List.range n).map fun i => powB x (i + 1))) (sumsL t n)) := fun k hk => by
      unfold sumsL
      rw [co_range _ _ _ hk, co_add, co_scale, co_range _ _ _ hk, co_range _ _ _ hk]
      rfl
    have hg : Low n (mulL [1, x] (scaleL e ((List.range n).map fun i => powB x (i + 1)))) [mulB e x] := fun k hk => by
      rw [co_lin, co_scale, co_range _ _ _ hk]
      cases k with
      | zero =>
        rw [if_pos rfl, add_zero, co_zero]
        show mulB e (mulB 1 x) = _
        rw [one_mul]
      | succ k =>
        rw [if_neg (by omega), Nat.add_sub_cancel, co_scale, co_range _ _ _ (by omega), co_succ, co_nil]
        have e1 : mulB x (mulB e (powB x (k + 1))) = mulB e (powB x (k + 1 + 1)) := by
          rw [pow_succ' x (k + 1), ← mul_assoc, mul_comm x e, mul_assoc, mul_comm x]
        rw [e1, add_self]
    show Low n (mulL (mulL [1, x] (sigL t)) _) (addL (scaleL (mulB e x) (sigL t)) (mulL [1, x] (omL t)))
    refine Low.trans ((hs.mul _)) (Low.trans ((mulL_add_right _ _ _).low n) (Low.add ?_ ?_))
    · -- [1, x] * sigma * G
      refine Low.trans ((mul_congr (mulL_comm [1, x] (sigL t)) (Eqv.refl _)).low n) (Low.trans ((mulL_assoc _ _ _).low n) (Low.trans (hg.mul _) ?_))
      exact (mulL_one_right (mulB e x) (sigL t)).low n
    · exact Low.trans ((mulL_assoc _ _ _).low n) (ih.mul _)
/-- At a power whose inverse is no place the finder isn't 0; at a place it is, and the values' polynomial is as often its slope as the value there. -/
theorem sig_ne (r : UInt8) : ∀ E : List (UInt8 × UInt8), (∀ p ∈ E, mulB p.2 r ≠ 1) → evalL (sigL E) r ≠ 0
  | [], _ => by
    show addB 1 (mulB r 0) ≠ 0
    rw [mul_zero, add_zero]
    decide
  | (e, x) :: t, h => by
    show evalL (mulL [1, x] (sigL t)) r ≠ 0
    rw [eval_mul]
    refine mul_ne _ _ ?_ (sig_ne r t (fun p hp => h p (List.mem_cons_of_mem _ hp)))
    intro e0
    simp only [evalL, mul_zero, add_zero] at e0
    exact h (e, x) List.mem_cons_self (by rw [mul_comm, ← add_zero_eq e0])
theorem lin_eval (x r : UInt8) : evalL [1, x] r = addB 1 (mulB r x) := by simp only [evalL, mul_zero, add_zero]
theorem lin_slope (x r : UInt8) : evalL (slopeL [1, x]) r = x := by
  have e : Eqv (slopeL [1, x]) [x] := fun k => by
    rw [co_slope]
    cases k with
    | zero => rfl
    | succ k =>
      rw [co_succ, co_succ, co_nil]
      split <;> rfl
  rw [eval_congr e]
  simp only [evalL, mul_zero, add_zero]
theorem at_place (Y X r : UInt8) (hX : X ≠ 0) (hr : mulB X r = 1) : ∀ E : List (UInt8 × UInt8), (E.map Prod.snd).Nodup → (Y, X) ∈ E →
    evalL (sigL E) r = 0 ∧ evalL (omL E) r = mulB Y (evalL (slopeL (sigL E)) r) ∧ evalL (slopeL (sigL E)) r ≠ 0
  | [], _, h => by cases h
  | (e, x) :: t, hd, hm => by
    rw [List.map_cons, List.nodup_cons] at hd
    have hsl : evalL (slopeL (sigL ((e, x) :: t))) r = addB (mulB x (evalL (sigL t) r)) (mulB (addB 1 (mulB r x)) (evalL (slopeL (sigL t)) r)) := by
      show evalL (slopeL (mulL [1, x] (sigL t))) r = _
      rw [eval_congr (slope_mul [1, x] (sigL t)) r, eval_add, eval_mul, eval_mul, lin_slope, lin_eval]
    have hom : evalL (omL ((e, x) :: t)) r = addB (mulB (mulB e x) (evalL (sigL t) r)) (mulB (addB 1 (mulB r x)) (evalL (omL t) r)) := by
      show evalL (addL (scaleL (mulB e x) (sigL t)) (mulL [1, x] (omL t))) r = _
      rw [eval_add, eval_scale, eval_mul, lin_eval]
    have hsg : evalL (sigL ((e, x) :: t)) r = mulB (addB 1 (mulB r x)) (evalL (sigL t) r) := by
      show evalL (mulL [1, x] (sigL t)) r = _
      rw [eval_mul, lin_eval]
    rcases List.mem_cons.1 hm with h | h
    · obtain ⟨rfl, rfl⟩ : Y = e ∧ X = x := by simpa using h
      have e0 : addB 1 (mulB r X) = 0 := by rw [mul_comm r X, hr, add_self]
      have hne : evalL (sigL t) r ≠ 0 := sig_ne r t (fun p hp e1 => hd.1 (List.mem_map.2 ⟨p, hp, by
        have : mulB r p.2 = mulB r X := by rw [mul_comm r, mul_comm r, e1, hr]
        refine mul_cancel r _ _ (fun h0 => ?_) this
        rw [h0, mul_zero] at hr
        exact absurd hr (by decide)⟩))
      rw [hsl, hom, hsg, e0, zero_mul, zero_mul, zero_mul, add_zero, add_zero]
      exact ⟨rfl, mul_assoc _ _ _, mul_ne _ _ hX hne⟩
    · obtain ⟨h1, h2, h3⟩ := at_place Y X r hX hr t hd.2 h
      have hne : addB 1 (mulB r x) ≠ 0 := fun e0 => by
        have e1 := add_zero_eq e0
        have : mulB r x = mulB r X := by rw [← e1, mul_comm r X, hr]
        have ex : x = X := mul_cancel r _ _ (fun h0 => by rw [h0, mul_zero] at hr; exact absurd hr (by decide)) this
        exact hd.1 (List.mem_map.2 ⟨(Y, X), h, ex.symm⟩)
      rw [hsl, hom, hsg, h1, h2, mul_zero, mul_zero, mul_zero, zero_add, zero_add]
      refine ⟨rfl, ?_, mul_ne _ _ hne h3⟩
      rw [← mul_assoc, ← mul_assoc, mul_comm Y]

/-! ### What a place is amiss by -/
/-- 2 to the power of so many less than nothing. -/
def rootB (p : Nat) : UInt8 := invB (powB 2 p)
theorem root_mul (p : Nat) : mulB (powB 2 p) (rootB p) = 1 := mul_inv _ (exp_ne p)
theorem root_ne (p : Nat) : rootB p ≠ 0 := inv_ne _ (exp_ne p)
theorem root_inj {i j : Nat} (hi : i < 255) (hj : j < 255) (h : rootB i = rootB j) : i = j := by
  refine powB_inj hi hj ?_
  refine mul_cancel (rootB i) _ _ (root_ne i) ?_
  rw [mul_comm, root_mul, h, mul_comm, root_mul]
def amB (f left : List UInt8) (p : Nat) : UInt8 :=
  if evalL f (rootB p) = 0 then (if evalL (slopeL f) (rootB p) = 0 then 0 else mulB (evalL left (rootB p)) (invB (evalL (slopeL f) (rootB p)))) else 0
/-- The bytes' own, the first one that of the greatest power. -/
def amL (f left : List UInt8) (len : Nat) : List UInt8 := (List.range len).map fun k => amB f left (len - 1 - k)
theorem am_length (f left : List UInt8) (len : Nat) : (amL f left len).length = len := by simp [amL]
theorem co_am (f left : List UInt8) (len k : Nat) (h : k < len) : co (amL f left len) k = amB f left (len - 1 - k) := co_range _ _ _ h
theorem wt_range (g : Nat → UInt8) (n : Nat) : wtL ((List.range n).map g) = ((List.range n).filter fun k => g k != 0).length := by
  unfold wtL
  rw [List.filter_map, List.length_map]
  rfl
theorem am_few (f left : List UInt8) (len d : Nat) (hl : len ≤ 255) (hf : pl f ≤ d + 1) : wtL (amL f left len) ≤ d := by
  refine Nat.le_of_not_lt fun h => ?_
  unfold amL at h
  rw [wt_range] at h
  have hz : ∀ k ∈ ((List.range len).filter fun k => amB f left (len - 1 - k) != 0).map (fun k => rootB (len - 1 - k)), evalL f k = 0 := fun x hx => by
    obtain ⟨k, hk, rfl⟩ := List.mem_map.1 hx
    have := (List.mem_filter.1 hk).2
    unfold amB at this
    by_cases h0 : evalL f (rootB (len - 1 - k)) = 0
    · exact h0
    · rw [if_neg h0] at this
      simp at this
  have hnd : (((List.range len).filter fun k => amB f left (len - 1 - k) != 0).map (fun k => rootB (len - 1 - k))).Nodup := by
    refine nodup_map_on (List.filter_sublist.nodup List.nodup_range) (fun x hx y hy e => ?_)
    have h1 := List.mem_range.1 (List.mem_filter.1 hx).1
    have h2 := List.mem_range.1 (List.mem_filter.1 hy).1
    have := root_inj (by omega) (by omega) e
    omega
  have e := roots_zero _ f hnd (by rw [List.length_map]; omega) hz
  have e2 : ∀ x, evalL (slopeL f) x = 0 := fun x => by
    rw [eval_congr (slope_congr e) x]
    rfl
  have e3 : ((List.range len).filter fun k => amB f left (len - 1 - k) != 0) = [] := List.filter_eq_nil_iff.2 fun k _ => by
    unfold amB
    rw [e2, if_pos rfl]
    split <;> simp
  rw [e3] at h
  simp at h

/-! ### Just what was spoilt -/
theorem co_val_pairs : ∀ (e : List UInt8) (k : Nat), k < e.length → (co e k, powB 2 (e.length - 1 - k)) ∈ pairsL e
  | [], k, h => by simp at h
  | c :: e, 0, _ => by
    rw [pairsL, co_zero, List.length_cons, Nat.sub_zero, Nat.add_sub_cancel]
    exact List.mem_cons_self
  | c :: e, k + 1, h => by
    have h' : k < e.length := by simpa using h
    rw [pairsL, co_succ, List.length_cons, show e.length + 1 - 1 - (k + 1) = e.length - 1 - k by omega]
    exact List.mem_cons_of_mem _ (co_val_pairs e k h')
theorem pairs_at : ∀ (e : List UInt8) (p : UInt8 × UInt8), p ∈ pairsL e → ∃ k, k < e.length ∧ p = (co e k, powB 2 (e.length - 1 - k))
  | [], p, h => by cases h
  | c :: e, p, h => by
    rw [pairsL] at h
    rcases List.mem_cons.1 h with rfl | h
    · exact ⟨0, by simp, by rw [co_zero, List.length_cons, Nat.sub_zero, Nat.add_sub_cancel]⟩
    · obtain ⟨k, hk, rfl⟩ := pairs_at e p h
      exact ⟨k + 1, by simpa using hk, by rw [co_succ, List.length_cons, show e.length + 1 - 1 - (k + 1) = e.length - 1 - k by omega]⟩
def errE (e : List UInt8) : List (UInt8 × UInt8) := (pairsL e).filter fun p => p.1 != 0
theorem signs_err (b a : List UInt8) (n : Nat) (hl : a.length = b.length) (hf : fineP a n) : signsL b n = sumsL (errE (List.zipWith addB b a)) n := by
  unfold signsL sumsL errE
  refine List.map_congr_left fun i hi => ?_
  have hi' := List.mem_range.1 hi
  rw [sumV_filter, ← val_pairs, val_xor _ _ _ hl.symm, hf (i + 1) (by omega) (by omega), add_zero]
/-- What is found is just what was spoilt. -/
theorem am_right {b a : List UInt8} {n : Nat} (h255 : b.length ≤ 255) (hn : Near b n a) {ahead left fa f : List UInt8} (h : Euc n (signsL b n) ahead left fa f) (hd : pl left ≤ n - n / 2) : amL f left b.length = List.zipWith addB b a := by
  obtain ⟨hl, hfine, hdif⟩ := hn
  have hel : (List.zipWith addB b a).length = b.length := by rw [List.length_zipWith]; omega
  have hS := signs_err b a n hl hfine
  have hw : (errE (List.zipWith addB b a)).length ≤ n / 2 := by
    have := pairs_wt (List.zipWith addB b a)
    unfold errE
    rw [this]
    exact hdif
  have hnd : ((errE (List.zipWith addB b a)).map Prod.snd).Nodup := (List.filter_sublist.map Prod.snd).nodup (locs_nodup _ (by omega))
  generalize hee : List.zipWith addB b a = e at hel hS hw hnd
  have hf := h.deg
  have hb := h.big
  have hE1 := sig_pl (errE e)
  have hE2 := om_pl (errE e)
  -- the two are alike, one against the other
  have cross : Eqv (mulL (sigL (errE e)) left) (mulL f (omL (errE e))) := fun k => by
    by_cases hk : k < n
    · have h1 : Low n (mulL (sigL (errE e)) left) (mulL (sigL (errE e)) (mulL f (signsL b n))) := (h.key.symm).mul _
      have h2 : Low n (mulL f (mulL (sigL (errE e)) (signsL b n))) (mulL f (omL (errE e))) := by rw [hS]; exact (key_eq n (errE e)).mul f
      rw [h1 k hk, ← h2 k hk, ← mulL_assoc _ _ _ k, ← mulL_assoc _ _ _ k]
      exact mul_congr (mulL_comm _ _) (Eqv.refl _) k
    · have h1 := pl_mul (sigL (errE e)) left
      have h2 := pl_mul f (omL (errE e))
      rw [(pl_le_iff _ (pl (mulL (sigL (errE e)) left))).1 (Nat.le_refl _) k (by omega), (pl_le_iff _ (pl (mulL f (omL (errE e))))).1 (Nat.le_refl _) k (by omega)]
  have ev : ∀ r, mulB (evalL (sigL (errE e)) r) (evalL left r) = mulB (evalL f r) (evalL (omL (errE e)) r) := fun r => by
    rw [← eval_mul, ← eval_mul]
    exact eval_congr cross r
  have es : ∀ r, addB (mulB (evalL (slopeL (sigL (errE e))) r) (evalL left r)) (mulB (evalL (sigL (errE e)) r) (evalL (slopeL left) r)) = addB (mulB (evalL (slopeL f) r) (evalL (omL (errE e)) r)) (mulB (evalL f r) (evalL (slopeL (omL (errE e))) r)) := fun r => by
    rw [← eval_mul, ← eval_mul, ← eval_mul, ← eval_mul, ← eval_add, ← eval_add, ← eval_congr (slope_mul _ _) r, ← eval_congr (slope_mul _ _) r]
    exact eval_congr (slope_congr cross) r
  refine co_ext (by rw [am_length, hel]) (fun k hk => ?_)
  rw [am_length] at hk
  rw [co_am _ _ _ _ hk]
  have hke : k < e.length := by omega
  obtain ⟨p, hp⟩ : ∃ p, p = b.length - 1 - k := ⟨_, rfl⟩
  rw [← hp]
  have hr := root_ne p
  have hm := root_mul p
  by_cases hc : co e k = 0
  · rw [hc]
    have hsig : evalL (sigL (errE e)) (rootB p) ≠ 0 := by
      refine sig_ne _ _ (fun q hq e1 => ?_)
      obtain ⟨hq1, hq2⟩ := List.mem_filter.1 hq
      obtain ⟨j, hj, rfl⟩ := pairs_at e q hq1
      have e2 : powB 2 (e.length - 1 - j) = powB 2 p := mul_cancel (rootB p) _ _ hr (by rw [mul_comm, e1, mul_comm, hm])
      have := powB_inj (by omega) (by omega) e2
      have ej : j = k := by omega
      rw [ej] at hq2
      simp [hc] at hq2
    unfold amB
    by_cases h0 : evalL f (rootB p) = 0
    · have := ev (rootB p)
      rw [h0, zero_mul] at this
      rcases (mul_eq_zero _ _).1 this with g | g
      · exact absurd g hsig
      · exact absurd (h.notzero _ hr h0 g) id
    · rw [if_neg h0]
  · have hmem : (co e k, powB 2 p) ∈ errE e := by
      refine List.mem_filter.2 ⟨?_, by simpa using hc⟩
      have := co_val_pairs e k hke
      rwa [show e.length - 1 - k = p by omega] at this
    obtain ⟨s1, s2, s3⟩ := at_place _ _ _ (exp_ne p) hm (errE e) hnd hmem
    have hv := ev (rootB p)
    rw [s1, zero_mul, s2] at hv
    have hf0 : evalL f (rootB p) = 0 := by
      rcases (mul_eq_zero _ _).1 hv.symm with g | g
      · exact g
      · exact absurd g (mul_ne _ _ hc s3)
    have hs := es (rootB p)
    rw [s1, hf0, zero_mul, zero_mul, add_zero, add_zero, s2] at hs
    have hleft : evalL left (rootB p) = mulB (co e k) (evalL (slopeL f) (rootB p)) := by
      refine mul_cancel (evalL (slopeL (sigL (errE e))) (rootB p)) _ _ s3 ?_
      rw [hs, ← mul_assoc, mul_comm (evalL (slopeL f) (rootB p)) (co e k), mul_comm (evalL (slopeL (sigL (errE e))) (rootB p)) (mulB _ _)]
    have hsf : evalL (slopeL f) (rootB p) ≠ 0 := fun h0 => h.notzero _ hr hf0 (by rw [hleft, h0, mul_zero])
    unfold amB
    rw [if_pos hf0, if_neg hsf, hleft, mul_assoc, mul_inv _ hsf, mul_one]
/-- What any finder on the way mends. -/
theorem mended_right {b : List UInt8} {n : Nat} (h255 : b.length ≤ 255) {ahead left fa f : List UInt8} (h : Euc n (signsL b n) ahead left fa f) (hd : pl left ≤ n - n / 2) :
    ∃ m, m = List.zipWith addB b (amL f left b.length) ∧ m.length = b.length ∧ difL b m = wtL (amL f left b.length) ∧ (fineP m n → Near b n m) ∧ (∀ a, Near b n a → a = m) := by
  have hal := am_length f left b.length
  have hx : ∀ (x y : List UInt8), x.length = y.length → List.zipWith addB x (List.zipWith addB x y) = y := by
    intro x
    induction x with
    | nil =>
      intro y hy
      have : y = [] := List.eq_nil_of_length_eq_zero (by simpa using hy.symm)
      rw [this]
      rfl
    | cons c x ih =>
      intro y hy
      match y, hy with
      | d :: y, hy =>
        rw [List.zipWith_cons_cons, List.zipWith_cons_cons, ih y (by simpa using hy), ← add_assoc, add_self, zero_add]
  have hdif : difL b (List.zipWith addB b (amL f left b.length)) = wtL (amL f left b.length) := by
    unfold difL
    rw [hx _ _ hal.symm]
  have hlen : (List.zipWith addB b (amL f left b.length)).length = b.length := by rw [List.length_zipWith, hal]; omega
  have hf := h.deg
  have hb := h.big
  refine ⟨_, rfl, hlen, hdif, fun hfine => ⟨hlen, hfine, ?_⟩, fun a ha => ?_⟩
  · rw [hdif]
    exact am_few f left b.length (n / 2) h255 (by omega)
  · rw [am_right h255 ha h hd, hx b a ha.1.symm]

/-! ### The answer -/
open Classical in
noncomputable def mendS (b : List UInt8) (n : Int) : List UInt8 × Nat × Int :=
  if errS b.length n = 0 then (if h : ∃ a, Near b n.toNat a then (h.choose, difL b h.choose, 0) else ([], 0, 6)) else ([], 0, errS b.length n)
theorem mendS_bad {b : List UInt8} {n : Int} (h : errS b.length n ≠ 0) : mendS b n = ([], 0, errS b.length n) := by
  unfold mendS
  rw [if_neg h]
theorem mendS_near {b a : List UInt8} {n : Nat} (h : errS b.length n = 0) (hl : b.length ≤ 255) (ha : Near b n a) : mendS b n = (a, difL b a, 0) := by
  unfold mendS
  have he : ∃ a, Near b ((n : Int)).toNat a := ⟨a, by rw [Int.toNat_natCast]; exact ha⟩
  rw [if_pos h, dif_pos he]
  have hc : Near b n he.choose := he.choose_spec
  rw [near_unique hl hc ha]
theorem mendS_many {b : List UInt8} {n : Nat} (h : errS b.length n = 0) (ha : ∀ a, ¬ Near b n a) : mendS b n = ([], 0, 6) := by
  unfold mendS
  rw [if_pos h, dif_neg (fun ⟨a, h2⟩ => ha a (by rw [Int.toNat_natCast] at h2; exact h2))]
theorem wt_take (l : List UInt8) (j : Nat) (h : j < l.length) : wtL (l.take (j + 1)) = wtL (l.take j) + (if co l j = 0 then 0 else 1) := by
  have e : l.take (j + 1) = l.take j ++ [co l j] := by
    rw [co_lt l j h, List.take_append_getElem h]
  rw [e, wt_append]
  congr 1
  rw [wt_cons]
  show _ + 0 = _
  rw [Nat.add_zero]
end Go.Proofs.Ytankddeolpickaa
/-
  What the program's calls of layer 10 answer, over the landed code. No conditions but those typed.
-/
namespace Go.Proofs.Ytankddeolpickaa
set_option maxRecDepth 100000
open Go.RowKit
set_option linter.unusedSimpArgs false
set_option linter.unusedVariables false

/-! ### Most -/
def mostN (n : Int) : Int := if n < 1 ∨ 64 < n then 0 else n / 2
theorem mostM_any (n : Int) (w : World) : Calls Try.prog 7 #[.int .i64 n] w fun e w' => e = .returned (.int .i64 (mostN n)) ∧ w = w' := by
  by_cases h1 : n < 1
  · have HE : Hid (mostN n = 0) := if_pos (.inl h1)
    rw [HE.out]
    go_enter Try.func7, Try.ntmps7
    go_wp2_with fail
    go_ret
    exact ⟨rfl, rfl⟩
  · by_cases h2 : 64 < n
    · have HE : Hid (mostN n = 0) := if_pos (.inr h2)
      rw [HE.out]
      go_enter Try.func7, Try.ntmps7
      go_wp2_with fail
      go_ret
      exact ⟨rfl, rfl⟩
    · obtain ⟨m, rfl⟩ : ∃ m : Nat, n = (m : Int) := ⟨n.toNat, by omega⟩
      have HE : Hid (mostN (m : Int) = ((m / 2 : Nat) : Int)) := by
        unfold Hid mostN
        rw [if_neg (by omega)]
        omega
      have e1 : (m : Int).tdiv 2 = ((m / 2 : Nat) : Int) := by rw [Int.tdiv_eq_ediv_of_nonneg (by omega)]; omega
      have e2 : IntKind.i64.wrap ((m / 2 : Nat) : Int) = ((m / 2 : Nat) : Int) := by rw [IntKind.wrap_i64]; omega
      rw [HE.out]
      go_enter Try.func7, Try.ntmps7
      go_wp2_with fail
      go_ret
      exact ⟨rfl, rfl⟩

/-! ### solve -/
def lenV : Value → Nat
  | .slice _ n _ => n
  | _ => 0
theorem quo_pl {p q a r : List UInt8} (h : IsQuo p q a r) (hl : pl q < pl p) : pl a + pl q ≤ pl p + 1 := by
  have hr : pl r < pl q := h.2
  by_cases h0 : pl a = 0
  · omega
  · have e1 : pl (mulL a q) = pl a + pl q - 1 := pl_mul_eq a q (by omega) (by omega)
    have e2 : Eqv (mulL a q) (addL p r) := fun k => by
      have := h.1 k
      rw [co_add] at this
      rw [co_add, ← this, add_assoc, add_self, add_zero]
    have e3 := pl_add p r
    rw [pl_congr e2] at e1
    omega
/-- A polynomial that may be read. -/
def HasP (w : World) (v : Value) (l : List UInt8) : Prop := ∃ A n c, v = .slice A n c ∧ Hid (l.length = n) ∧ n ≤ c ∧ n ≤ 100 ∧ Rd vB w A l
theorem HasP.keep {w w' : World} {v : Value} {l : List UInt8} (h : HasP w v l) (hb : Below w.heap.size w w') : HasP w' v l := by
  obtain ⟨A, n, c, e, h1, h2, h3, h4⟩ := h
  exact ⟨A, n, c, e, h1, h2, h3, h4.keep hb⟩
def SolveR (S : List UInt8) (n : Nat) (w : World) (a l fa f : Value) (wr : World) : Prop :=
  ∃ (ah le fA fi : List UInt8), HasP wr a ah ∧ HasP wr l le ∧ HasP wr fa fA ∧ HasP wr f fi ∧ Below w.heap.size w wr ∧ Hid (Euc n S ah le fA fi)
def RetSolve (S : List UInt8) (n : Nat) (w : World) (e : Ending) (w' : World) : Prop :=
  ∃ (vf vl : Value) (ah le fA fi : List UInt8), e = .returned (.tuple #[vf, vl]) ∧ HasP w' vf fi ∧ HasP w' vl le ∧ Below w.heap.size w w' ∧ Hid (Euc n S ah le fA fi ∧ pl le ≤ n - n / 2)
set_option maxHeartbeats 2000000 in
theorem solveM_any (S : List UInt8) (n : Nat) (A : Option Addr) (c : Nat) (w : World) (HN : Hid (S.length = n)) (hr : Rd vB w A S) (hc : n ≤ c) (h1 : 1 ≤ n) (h2 : n ≤ 64) :
    Calls Try.prog 13 #[.slice A n c] w (RetSolve S n w) := by
  obtain ⟨i0, hi, hz0, hz1, hz2⟩ := info_parts info_u8
  have HM : ∀ W, Calls Try.prog 7 #[.int .i64 (n : Int)] W fun e w' => e = .returned (.int .i64 ((n / 2 : Nat) : Int)) ∧ W = w' := fun W => by
    have := mostM_any (n : Int) W
    unfold mostN at this
    rw [if_neg (by omega), show (n : Int) / 2 = ((n / 2 : Nat) : Int) by omega] at this
    exact this
  have HMost := Lib.hid HM
  clear HM
  have HST := Lib.hid (euc_start n S HN.out)
  go_enter Try.func13, Try.ntmps13
  go_upto_region 3 with (first
    | (at_make; refine wpList_make_full _ rfl _ _ 22 rfl w.heap.size 5 i0 (.int .u8 0) 1 Try.underlying22 hi hz0 hz1 .i64 .i64 _ _ n rfl rfl rfl rfl (by rw [hz2]; omega) (by unfold maxLen; omega) (Nat.le_refl _) ?_; intro w0 hown0 hgrow0)
    | (at_builtin; refine wpList_append_rd (f := vB) _ rfl (.tmp 15) (.tmp 16) 22 rfl w.heap.size 5 i0 (.int .u8 0) 1 Try.underlying22 hi hz0 hz1 hz2 rfl _ _ _ rfl (ownsRow_later hown0 (below_new (Below.refl _ w0) _)) _ ([1] : List UInt8) 1 rfl (Rd.new w0 [1] _ _ rfl) vB_one (by unfold maxLen; simp; omega) (by simp; omega) (by simp only [World.size_alloc]; have := hgrow0.size; simp at this ⊢; omega) ?_; intro v4 w4 hown4 hgrow4))
  rw [Nat.mul_one, show (Value.int .u8 0).cells = #[.int .u8 0] from rfl, toList_madeCells_one, zeros_map, ← List.map_append] at hown4
  have hB0 : Below w.heap.size w w0 := (Below.refl _ _).grown hgrow0 (Nat.le_refl _) (by simp)
  have hB4 : Below w.heap.size w w4 := (below_new hB0 _).grown hgrow4 (by have := hB0.size; simp; omega) (fun k hk => (hown0.lt k hk).1)
  have hXL : (List.replicate n (0 : UInt8) ++ [1]).length = n + ([1] : List UInt8).length := by simp
  rw [← hXL] at hown4
  obtain ⟨A4, c4, rfl, hc4, hr4⟩ := own_slice hown4
  rw [hXL] at hc4 ⊢
  simp only [List.length_cons, List.length_nil, Nat.zero_add] at hc4 ⊢
  replace hr := hr.keep hB4
  have HAh : HasP w4 (.slice A4 (n + 1) c4) (xN n) := ⟨A4, n + 1, c4, rfl, by unfold Hid; exact xN_length n, hc4, by omega, hr4⟩
  have HLe : HasP w4 (.slice A n c) S := ⟨A, n, c, rfl, HN, hc, by omega, hr⟩
  have hb1 := below_new (Below.refl _ w4) (.cells #[] 5)
  have hb2 := below_new hb1 (.cells #[.int .u8 1] 5)
  have HFa : HasP (w4.alloc (.cells #[] 5)) (.slice (some ⟨w4.heap.size, 0, none⟩) 0 0) [] := ⟨_, 0, 0, rfl, Lib.hid rfl, Nat.le_refl _, by omega, Rd.nil⟩
  have HFi : HasP ((w4.alloc (.cells #[] 5)).alloc (.cells #[.int .u8 1] 5)) (.slice (some ⟨(w4.alloc (.cells #[] 5)).heap.size, 0, none⟩) 1 1) [1] := ⟨_, 1, 1, rfl, Lib.hid rfl, Nat.le_refl _, by omega, Rd.new _ [1] _ _ rfl⟩
  have HREL : Hid (SolveR S n w (.slice A4 (n + 1) c4) (.slice A n c) (.slice (some ⟨w4.heap.size, 0, none⟩) 0 0) (.slice (some ⟨(w4.alloc (.cells #[] 5)).heap.size, 0, none⟩) 1 1) ((w4.alloc (.cells #[] 5)).alloc (.cells #[.int .u8 1] 5))) :=
    ⟨xN n, S, [], [1], HAh.keep hb2, HLe.keep hb2, HFa.keep (below_new (Below.refl _ _) _), HFi, below_step hB4 hb2, HST⟩
  rw [show (w4.alloc (.cells #[] 5)).heap.size = w4.heap.size + 1 by simp] at HREL
  clear HAh HLe HFa HFi hb1 hb2 hr4 hown4 hgrow4 hB4 hB0 hown0 hgrow0 hXL hr HST
  go_wp2_with fail
  go_loopw [5, 6, 7, 8] (fun a l fa f wr => SolveR S n w a l fa f wr) (fun _ l _ _ _ => lenV l)
  case atStart => exact HREL.out
  case round =>
    clear HREL
    obtain ⟨ah, le, fA, fi, ⟨A1, n1, d1, rfl, HN1, hd1, hm1, hr1⟩, ⟨A2, n2, d2, rfl, HN2, hd2, hm2, hr2⟩, ⟨A3, n3, d3, rfl, HN3, hd3, hm3, hr3⟩, ⟨A5, n5, d5, rfl, HN5, hd5, hm5, hr5⟩, hB, HE⟩ := hrel
    go_wp2_with fail
    refine (degP_any le n2 A2 d2 _ HN2 hr2 hd2 (by omega)).mono ?_
    rintro e w1 ⟨rfl, hb⟩
    replace hB := below_step hB hb
    replace hr1 := hr1.keep hb
    replace hr2 := hr2.keep hb
    replace hr3 := hr3.keep hb
    replace hr5 := hr5.keep hb
    clear hb
    go_wp2_with fail
    refine (HMost.out _).mono ?_
    rintro e w2 ⟨rfl, rfl⟩
    obtain ⟨L, hL⟩ : ∃ L, (plainL le).length = L := ⟨_, rfl⟩
    have hpl : pl le = L := hL
    have hL2 : L ≤ n2 := by rw [← hL, ← HN2.out]; exact plain_len le
    obtain ⟨M, hM⟩ : ∃ M, n / 2 = M := ⟨_, rfl⟩
    have hM2 : M ≤ n := by omega
    rw [hL, hM]
    have HD : Hid (n - n / 2 = n - M) := by unfold Hid; rw [hM]
    have HL := Lib.hid hpl
    clear hM hL hpl
    by_cases hgo : n - M < L
    · have j1 : (n : Int) - (M : Int) ≤ (L : Int) - 1 := by omega
      have HQ : Hid (plainL le ≠ []) := fun h0 => by
        have := HL.out
        unfold pl at this
        rw [h0] at this
        simp at this
        omega
      go_wp2_with fail
      refine (quoP_good ah le n1 n2 A1 A2 d1 d2 _ HN1 HN2 hr1 hr2 hd1 hd2 (by omega) (by omega) HQ).mono ?_
      rintro e w3 ⟨qa, rr, B1, B2, k1, k2, q1, q2, rfl, HK1, HK2, hq1, hq2, hra, hrr, hb3, HQQ⟩
      replace hB := below_step hB hb3
      replace hr1 := hr1.keep hb3
      replace hr2 := hr2.keep hb3
      replace hr3 := hr3.keep hb3
      replace hr5 := hr5.keep hb3
      have hk1 : k1 ≤ 100 := by
        have h1 := quo_pl HQQ.out.1 HE.out.less
        have h2 := HE.out.deg
        have h3 : pl qa = k1 := by unfold pl; rw [HQQ.out.2.1]; exact HK1.out
        omega
      have hk2 : k2 < n2 := by
        have h1 : pl rr < pl le := HQQ.out.1.2
        have h3 : pl rr = k2 := by unfold pl; rw [HQQ.out.2.2]; exact HK2.out
        have h4 := HL.out
        omega
      clear hb3
      go_wp2_with fail
      refine (mulP_any qa fi k1 n5 B1 A5 q1 d5 _ HK1 HN5 hra hr5 hq1 hd5 (by omega) (by omega)).mono ?_
      rintro e w4 ⟨A6, n6, d6, rfl, HN6, hd6, hr6, hb4⟩
      have hn6 : n6 ≤ 1000 := by
        have h1 := plain_len (mulL qa fi)
        have h2 : pl (mulL qa fi) ≤ pl qa + pl fi - 1 := pl_mul qa fi
        have h3 := pl_len qa
        have h4 := pl_len fi
        have h5 := HK1.out
        have h6 := HN5.out
        have h7 : pl (mulL qa fi) = n6 := HN6.out
        omega
      replace hB := below_step hB hb4
      replace hr2 := hr2.keep hb4
      replace hr3 := hr3.keep hb4
      replace hr5 := hr5.keep hb4
      replace hrr := hrr.keep hb4
      clear hb4
      go_wp2_with fail
      refine (addP_any fA (plainL (mulL qa fi)) n3 n6 A3 A6 d3 d6 _ HN3 HN6 hr3 hr6 hd3 hd6 (by omega) (by omega)).mono ?_
      rintro e w5 ⟨A7, n7, d7, rfl, HN7, hd7, hr7, hb5⟩
      have hf : Eqv (plainL (addL fA (plainL (mulL qa fi)))) (addL fA (mulL qa fi)) := (plain_eqv _).trans (add_congr (Eqv.refl _) (plain_eqv _))
      have HE2 := Lib.hid (HE.out.step HQQ.out.1 (by have := HL.out; have := HD.out; omega) hf)
      have hn7 : n7 ≤ 100 := by
        have h1 := HE2.out.deg
        have h2 : pl (plainL (addL fA (plainL (mulL qa fi)))) = n7 := by unfold pl; rw [plain_plain]; exact HN7.out
        omega
      have HREL2 : Hid (SolveR S n w (.slice A2 n2 d2) (.slice B2 k2 q2) (.slice A5 n5 d5) (.slice A7 n7 d7) w5) :=
        ⟨le, rr, fi, plainL (addL fA (plainL (mulL qa fi))), ⟨A2, n2, d2, rfl, HN2, hd2, hm2, hr2.keep hb5⟩, ⟨B2, k2, q2, rfl, HK2, hq2, by omega, hrr.keep hb5⟩, ⟨A5, n5, d5, rfl, HN5, hd5, hm5, hr5.keep hb5⟩, ⟨A7, n7, d7, rfl, HN7, hd7, hn7, hr7⟩, below_step hB hb5, HE2⟩
      clear hB hr2 hr3 hr5 hr1 hrr hra hr6 hr7 HE HE2 HQQ hf hb5
      go_wp2_with fail
      go_roundw
      case rel => exact HREL2.out
      case measure => simp [lenV] <;> omega
    · have j1 : ¬ (n : Int) - (M : Int) ≤ (L : Int) - 1 := by omega
      go_wp2_with fail
      go_ret2
      exact ⟨_, _, ah, le, fA, fi, rfl, ⟨A5, n5, d5, rfl, HN5, hd5, hm5, hr5⟩, ⟨A2, n2, d2, rfl, HN2, hd2, hm2, hr2⟩, hB, HE.out, by rw [HL.out, HD.out]; omega⟩

/-! ### amiss -/
theorem powZ_neg (p : Nat) (hp : p < 255) : powZ 2 (-(p : Int)) = rootB p := by
  unfold powZ
  rw [if_neg (by decide)]
  refine inv_unique _ _ ?_
  rw [← pow_add]
  by_cases h : p = 0
  · subst h
    rfl
  · have : ((-(p : Int)) % 255).toNat = 255 - p := by omega
    rw [this, show p + (255 - p) = 255 by omega, exp_255]
set_option maxHeartbeats 2000000 in
theorem amissM_any (f le : List UInt8) (p : Nat) (vf vl : Value) (w : World) (hp : p < 255) (hf : HasP w vf f) (hl : HasP w vl le) :
    Calls Try.prog 15 #[vf, vl, .int .i64 (p : Int)] w fun e w' => e = .returned (.int .u8 ((amB f le p).toNat : Int)) ∧ Below w.heap.size w w' := by
  obtain ⟨A1, n1, c1, rfl, HN1, hc1, hm1, hr1⟩ := hf
  obtain ⟨A2, n2, c2, rfl, HN2, hc2, hm2, hr2⟩ := hl
  have hx := gfexp_any (-(p : Int)) w
  rw [powZ_neg p hp] at hx
  have HX := Lib.hid hx
  have hw : IntKind.i64.wrap (-(p : Int)) = -(p : Int) := by rw [IntKind.wrap_i64]; omega
  clear hx
  obtain ⟨V, hV⟩ : ∃ V, amB f le p = V := ⟨_, rfl⟩
  rw [hV]
  unfold amB at hV
  generalize rootB p = r at HX hV
  obtain ⟨y, hy⟩ : ∃ y, evalL f r = y := ⟨_, rfl⟩
  have hEf := fun W (hW : Below w.heap.size w W) => evalP_any f r n1 A1 c1 W HN1 (hr1.keep hW) hc1 (by omega)
  rw [hy] at hEf hV
  have HEF := Lib.hid hEf
  have HV := Lib.hid hV
  clear hEf hy hV
  go_enter Try.func15, Try.ntmps15
  go_wp2_with fail
  refine HX.out.mono ?_
  rintro e w1 ⟨rfl, rfl⟩
  go_wp2_with fail
  refine (HEF.out _ (Below.refl _ _)).mono ?_
  rintro e w1 ⟨rfl, hb1⟩
  by_cases h0 : y = 0
  · subst h0
    have hV := HV.out
    rw [if_pos rfl] at hV
    clear HV
    replace hr1 := hr1.keep hb1
    replace hr2 := hr2.keep hb1
    have hB := hb1
    clear hb1
    go_wp2_with fail
    refine (slopeP_any f n1 A1 c1 _ HN1 hr1 hc1 (by omega)).mono ?_
    rintro e w2 ⟨A3, n3, c3, rfl, HN3, hc3, hr3, hb2⟩
    have hn3 : n3 ≤ 1000 := by
      rw [← HN3.out]
      have h1 := plain_len (slopeL f)
      have h2 : (plainL (slopeL f)).length ≤ f.length := (plain_le_iff _ _).2 fun k hk => by
        rw [co_slope]
        split
        · exact co_ge f _ (by omega)
        · rfl
      have := HN1.out
      omega
    have he : evalL (slopeL f) r = evalL (plainL (slopeL f)) r := (eval_congr (plain_eqv _) r).symm
    rw [he] at hV
    generalize plainL (slopeL f) = S at HN3 hr3 hV
    clear he
    replace hB := below_step hB hb2
    replace hr2 := hr2.keep hb2
    obtain ⟨z, hz⟩ : ∃ z, evalL S r = z := ⟨_, rfl⟩
    obtain ⟨u, hu⟩ : ∃ u, evalL le r = u := ⟨_, rfl⟩
    have hES := evalP_any S r n3 A3 c3 w2 HN3 hr3 hc3 (by omega)
    have hEL := fun W (hW : Below w2.heap.size w2 W) => evalP_any le r n2 A2 c2 W HN2 (hr2.keep hW) hc2 (by omega)
    rw [hz] at hES hV
    rw [hu] at hEL hV
    have HV := Lib.hid hV
    clear hV
    have HES := Lib.hid hES
    have HEL := Lib.hid hEL
    clear hES hEL hz hu hb2
    go_wp2_with fail
    refine HES.out.mono ?_
    rintro e w3 ⟨rfl, hb3⟩
    replace hB := below_step hB hb3
    by_cases hz : z = 0
    · subst hz
      have HV0 : Hid (V = 0) := by unfold Hid; rw [← HV.out, if_pos rfl]
      clear HV
      go_wp2_with fail
      refine (gfinv_zero _).mono ?_
      rintro e w4 ⟨rfl, rfl⟩
      go_wp2_with fail
      refine (HEL.out _ hb3).mono ?_
      rintro e w5 ⟨rfl, hb5⟩
      replace hB := below_step hB hb5
      have hm := gfmul_any u 0 w5
      rw [mul_zero] at hm
      have HMU := Lib.hid hm
      clear hm
      go_wp2_with fail
      refine HMU.out.mono ?_
      rintro e w6 ⟨rfl, rfl⟩
      go_wp2_with fail
      go_ret
      exact ⟨ret_int (by rw [HV0.out]; rfl), hB⟩
    · have HV0 : Hid (V = mulB u (invB z)) := by unfold Hid; rw [← HV.out, if_neg hz]
      clear HV
      go_wp2_with fail
      refine (gfinv_any z _ hz).mono ?_
      rintro e w4 ⟨rfl, rfl⟩
      go_wp2_with fail
      refine (HEL.out _ hb3).mono ?_
      rintro e w5 ⟨rfl, hb5⟩
      replace hB := below_step hB hb5
      go_wp2_with fail
      refine (gfmul_any u (invB z) _).mono ?_
      rintro e w6 ⟨rfl, rfl⟩
      go_wp2_with fail
      go_ret
      exact ⟨ret_int (by rw [HV0.out]), hB⟩
  · have HV0 : Hid (V = 0) := by unfold Hid; rw [← HV.out, if_neg h0]
    clear HV
    have hne : ((y.toNat : Int) != 0) = true := by
      rw [bne_iff_ne]
      intro e
      apply h0
      apply UInt8.toNat_inj.1
      rw [show (0 : UInt8).toNat = 0 from rfl]
      omega
    go_wp2_with fail
    go_ret
    exact ⟨ret_int (by rw [HV0.out]; rfl), hb1⟩

/-! ### Mend -/
/-- A call that hands back bytes, how many places, and an error. -/
def RetM (w : World) (s : List UInt8 × Nat × Int) (e : Ending) (w' : World) : Prop := ∃ A n c, e = .returned (.tuple #[.slice A n c, .int .i64 (s.2.1 : Int), .int .i64 s.2.2]) ∧ Hid (s.1.length = n) ∧ n ≤ c ∧ Rd vB w' A s.1 ∧ Below w.heap.size w w' ∧ ∀ a, A = some a → w.heap.size ≤ a.block
theorem RetM.to {w w' : World} {s : List UInt8 × Nat × Int} {e : Ending} (h : RetM w s e w') (l : List UInt8) (k : Nat) (kz err : Int) (hs : s = (l, k, err)) (hk : (k : Int) = kz) :
    ∃ A n c, e = .returned (.tuple #[.slice A n c, .int .i64 kz, .int .i64 err]) ∧ Hid (l.length = n) ∧ n ≤ c ∧ Rd vB w' A l ∧ Below w.heap.size w w' ∧ ∀ a, A = some a → w.heap.size ≤ a.block := by
  subst hs
  subst hk
  exact h
def MendR (b am : List UInt8) (g : Nat) (wb : World) (pv kv : Value) (wr : World) : Prop :=
  ∃ (j : Nat) (T : List UInt8), j ≤ b.length ∧ kv = .int .i64 (j : Int) ∧ pv = .int .i64 ((wtL (am.take j) : Nat) : Int) ∧ T.length = b.length ∧ (∀ i, i < b.length → co T i = if i < j then addB (co b i) (co am i) else co b i) ∧ Cel wr g 5 T ∧ Below wb.heap.size wb wr
set_option maxHeartbeats 2000000 in
theorem mendM_ok (b : List UInt8) (len n : Nat) (A : Option Addr) (c : Nat) (w : World) (HN : Hid (b.length = len)) (hr : Rd vB w A b) (hc : len ≤ c) (h1 : 1 ≤ n) (h2 : n ≤ 64) (h3 : n ≤ len) (h4 : len ≤ 255) :
    Calls Try.prog 8 #[.slice A len c, .int .i64 (n : Int)] w (RetM w (mendS b n)) := by
  obtain ⟨i0, hi, hz0, hz1, hz2⟩ := info_parts info_u8
  have e1 := HN.out
  subst e1
  have hE : errS b.length n = 0 := by unfold errS; rw [if_neg (by omega), if_neg (by omega), if_neg (by omega)]
  have HSI := Lib.hid (signsS_ok b b.length n A c w HN hr hc h1 h2 h3 h4)
  have HNear : Hid (∀ a, Near b n a → mendS b n = (a, difL b a, 0)) := fun a ha => mendS_near hE h4 ha
  have HMany : Hid ((∀ a, ¬ Near b n a) → mendS b n = ([], 0, 6)) := fun ha => mendS_many hE ha
  generalize mendS b n = R at HNear HMany ⊢
  clear hE
  go_enter Try.func8, Try.ntmps8
  go_wp2_with fail
  refine HSI.out.mono ?_
  rintro e w1 ⟨A1, n1, c1, rfl, HN1, hc1, hr1, hb1⟩
  have en1 : n1 = n := by rw [← HN1.out, signs_length]
  subst en1
  clear HSI
  go_wp2_with fail
  refine (solveM_any (signsL b n1) n1 A1 c1 w1 HN1 hr1 hc1 h1 h2).mono ?_
  rintro e w2 ⟨vf, vl, ah, le, fA, fi, rfl, hf, hle, hb2, HEU⟩
  obtain ⟨M, hM, hMl, hMd, hMn, hMu⟩ := mended_right h4 HEU.out.1 HEU.out.2
  obtain ⟨am, ham⟩ : ∃ am, amL fi le b.length = am := ⟨_, rfl⟩
  have hal : am.length = b.length := by rw [← ham]; exact am_length _ _ _
  have HCO : Hid (∀ j, j < b.length → amB fi le (b.length - 1 - j) = co am j) := fun j hj => by rw [← ham, co_am _ _ _ _ hj]
  rw [ham] at hM hMd
  have HM1 := Lib.hid hM
  have HM2 := Lib.hid hMd
  have HM3 := Lib.hid hMn
  have HM4 := Lib.hid hMu
  replace hr := hr.keep (below_step hb1 hb2)
  have hB := below_step hb1 hb2
  clear hr1 HEU HN1 ham hM hMd hMn hMu hb1 hb2
  go_wp2_with fail
  refine (clone_own b A c w2 hr (by omega)).mono ?_
  rintro e w3 ⟨v, rfl, ho, hb3⟩
  obtain ⟨A3, c3, rfl, hc3⟩ := own_form ho
  obtain ⟨g, rfl, hg, _⟩ := cel_of_own ho rfl (by omega)
  obtain ⟨hcel, _, hle3, hmax⟩ := celN_some ho rfl
  have hc0 := hcel.cel
  have hgw : w.heap.size ≤ g := Nat.le_trans hB.size hg
  clear ho hcel
  have hrel0 : MendR b am g w2 (.int .i64 0) (.int .i64 0) w3 := ⟨0, b, Nat.zero_le _, rfl, rfl, rfl, fun i hi => by rw [if_neg (Nat.not_lt_zero i)], hc0, hb3⟩
  have HREL := Lib.hid hrel0
  clear hrel0 hc0 hb3
  go_wp2_with fail
  go_loopw [12, 33] (fun p k wr => MendR b am g w2 p k wr) (fun _ k _ => b.length - (intOf k).toNat)
  case atStart => exact HREL.out
  case round =>
    clear HREL
    obtain ⟨j, T, hj, rfl, rfl, hT, hS, hcel, hbr⟩ := hrel
    have hf' := hf.keep hbr
    have hl' := hle.keep hbr
    by_cases h : j < b.length
    · have j1 : (j : Int) < (b.length : Int) := by omega
      have j0 : (0 : Int) ≤ (j : Int) := by omega
      obtain ⟨p, hp⟩ : ∃ p : Nat, p = b.length - 1 - j := ⟨_, rfl⟩
      have e1 : (b.length : Int) - 1 - (j : Int) = (p : Int) := by omega
      have hp2 : p < 255 := by omega
      have hA := amissM_any fi le p vf vl wr hp2 hf' hl'
      rw [hp, HCO.out j h] at hA
      rw [← hp] at hA
      have hkT : j < T.length := by omega
      have hSj := hS j h
      rw [if_neg (Nat.lt_irrefl j)] at hSj
      have hwt := wt_take am j (by omega)
      have hP255 : wtL (am.take (j + 1)) ≤ 255 := by have := wt_le (am.take (j + 1)); rw [List.length_take] at this; omega
      have HT1 : Hid (∀ (T' : List UInt8) (W : World), T'.length = b.length → (∀ i, i < b.length → co T' i = if i = j then addB (co b j) (co am j) else co T i) → Cel W g 5 T' → Below w2.heap.size w2 W → MendR b am g w2 (.int .i64 ((wtL (am.take (j + 1)) : Nat) : Int)) (.int .i64 ((j : Int) + 1)) W) := fun T' W t1 t2 t3 t4 =>
        ⟨j + 1, T', h, by go_num, rfl, t1, fun i hi => by
          rw [t2 i hi]
          by_cases e : i = j
          · subst e
            rw [if_pos rfl, if_pos (Nat.lt_succ_self i)]
          · rw [if_neg e, hS i hi]
            by_cases g1 : i < j
            · rw [if_pos g1, if_pos (by omega)]
            · rw [if_neg g1, if_neg (by omega)], t3, t4⟩
      generalize co am j = a at hA HT1 hwt
      generalize wtL (am.take j) = P0 at hwt ⊢
      generalize wtL (am.take (j + 1)) = P1 at hwt HT1 hP255
      have HA := Lib.hid hA
      have HSJ := Lib.hid hSj
      have HWT := Lib.hid hwt
      clear hA hS hp hSj hwt
      go_wp2_with fail
      refine HA.out.mono ?_
      rintro e w4 ⟨rfl, hb4⟩
      have hcel4 := hcel.later hb4
      have hB4 := below_step hbr hb4
      clear hcel hbr hf' hl' hb4 HA
      by_cases h0 : a = 0
      · subst h0
        have hP : P1 = P0 := by have := HWT.out; rw [if_pos rfl] at this; exact this
        subst hP
        have HR := Lib.hid (HT1.out T w4 hT (fun i hi => by
          by_cases e : i = j
          · subst e
            rw [if_pos rfl, HSJ.out, add_zero]
          · rw [if_neg e]) hcel4 hB4)
        clear HT1 HWT HSJ hcel4 hB4
        go_wp2_with fail
        go_roundw
        case rel => exact HR.out
        case measure => simp [intOf] <;> omega
      · have hne : ((a.toNat : Int) != 0) = true := by
          rw [bne_iff_ne]
          intro e
          apply h0
          apply UInt8.toNat_inj.1
          rw [show (0 : UInt8).toNat = 0 from rfl]
          omega
        have hP : ((P0 : Int) + 1) = (P1 : Int) := by have := HWT.out; rw [if_neg h0] at this; omega
        have hcj := hcel4.get j hkT
        rw [HSJ.out] at hcj
        have hfj := hcel4.frozen j
        have hcs := hcel4.set j (addB (co b j) a)
        have HR := fun hd => Lib.hid (HT1.out (T.set j (addB (co b j) a)) (w4.setCell ⟨g, j, none⟩ (.int .u8 ((addB (co b j) a).toNat : Int))) (by rw [List.length_set]; exact hT) (fun i hi => co_set T j i _ hkT) hcs hd)
        have HR2 := HR (hB4.setCell (p := ⟨g, j, none⟩) hg _)
        generalize co b j = bj at hcj HR2 HSJ hcs
        clear HT1 HWT HSJ hcel4 hcs hB4 HR
        go_wp2_with fail
        refine (gfadd_any bj a _).mono ?_
        rintro e w5 ⟨rfl, rfl⟩
        go_wp2_with fail
        go_roundw
        case rel => exact HR2.out
        case measure => simp [intOf] <;> omega
    · have ej : j = b.length := by omega
      subst ej
      have j1 : ¬ (b.length : Int) < (b.length : Int) := by omega
      have HT : Hid (T = M) := by
        unfold Hid
        rw [HM1.out]
        refine co_ext (by rw [hT, List.length_zipWith]; omega) (fun i hi => ?_)
        rw [hT] at hi
        rw [hS i hi, if_pos hi, co_zip _ _ _ hi (by omega)]
      have HW : Hid (wtL (am.take b.length) = difL b M) := by
        unfold Hid
        rw [HM2.out, ← hal, List.take_length]
      have e2 := HT.out
      subst e2
      rw [HW.out]
      have hrT := hcel.rd
      have hBw := below_step hB hbr
      have HTL := Lib.hid hT
      have hfin := fineS_any T b.length (n1 : Int) (some ⟨g, 0, none⟩) c3 wr HTL hrT hc3 (by omega)
      obtain ⟨F, hF⟩ : ∃ F, fineS T (n1 : Int) = F := ⟨_, rfl⟩
      have hiff := fineS_iff T n1 h1 h2 (by omega) (by omega)
      rw [hF] at hfin hiff
      have HFin := Lib.hid hfin
      have HIff := Lib.hid hiff
      obtain ⟨D, hD⟩ : ∃ D, difL b T = D := ⟨_, rfl⟩
      rw [hD]
      have HDD := Lib.hid hD
      clear hD
      clear hcel hS hbr hfin hiff hF hf' hl' hf hle hr hT hB HCO
      go_wp2_with fail
      refine HFin.out.mono ?_
      rintro e w6 ⟨rfl, hb6⟩
      have hB6 := below_step hBw hb6
      have hr6 := hrT.keep hb6
      cases F with
      | true =>
        have HRR : Hid (R = (T, difL b T, 0)) := HNear.out T (HM3.out (HIff.out.1 rfl))
        clear HNear HMany HM3 HM4 hBw hrT hb6
        go_wp2_with fail
        go_ret3
        rw [HRR.out, HDD.out]
        exact ⟨_, b.length, c3, rfl, HTL, hc3, hr6, hB6, fun a ha => by cases ha; exact hgw⟩
      | false =>
        have HRR : Hid (R = ([], 0, 6)) := HMany.out fun a ha => by
          have ea := HM4.out a ha
          subst ea
          have := HIff.out.2 ha.2.1
          cases this
        clear HNear HMany HM3 HM4 hBw hrT hb6
        go_wp2_with fail
        go_ret3
        rw [HRR.out]
        exact ⟨none, 0, 0, rfl, Lib.hid rfl, Nat.le_refl _, Rd.nil, hB6, fun a ha => by cases ha⟩
theorem mendM_no (b : List UInt8) (len : Nat) (n : Int) (A : Option Addr) (c : Nat) (w : World) (HN : Hid (b.length = len)) (hr : Rd vB w A b) (hc : len ≤ c) (hl : len ≤ 100000) (h : errS len n ≠ 0) :
    Calls Try.prog 8 #[.slice A len c, .int .i64 n] w (RetM w (mendS b n)) := by
  have HM := Lib.hid (signsS_no b len n A c w HN hr hc hl (Lib.hid h))
  rw [mendS_bad (by rw [HN.out]; exact h), HN.out]
  generalize errS len n = k at HM h ⊢
  have hk : (k != 0) = true := bne_iff_ne.2 h
  clear h
  go_enter Try.func8, Try.ntmps8
  go_wp2_with fail
  refine HM.out.mono ?_
  rintro e w1 ⟨A1, n1, c1, rfl, HN1, hc1, hr1, hb1⟩
  go_wp2_with fail
  go_ret3
  exact ⟨none, 0, 0, rfl, Lib.hid rfl, Nat.le_refl _, Rd.nil, hb1, fun a ha => by cases ha⟩
theorem mendM_any (b : List UInt8) (len : Nat) (n : Int) (A : Option Addr) (c : Nat) (w : World) (HN : Hid (b.length = len)) (hr : Rd vB w A b) (hc : len ≤ c) (hl : len ≤ 100000) :
    Calls Try.prog 8 #[.slice A len c, .int .i64 n] w (RetM w (mendS b n)) := by
  by_cases h : errS len n = 0
  · obtain ⟨m, rfl, h1, h2, h3, h4⟩ := errS_cases len n h
    exact mendM_ok b len m A c w HN hr hc h1 h2 h3 h4
  · exact mendM_no b len n A c w HN hr hc hl h
end Go.Proofs.Ytankddeolpickaa
/-
  A literal's bytes, converted to their own type: a row with a frozen mark reads as the bytes did (no program is named here). No conditions but those typed.
-/
namespace Go.Proofs.Ytankddeolpickaa
set_option maxRecDepth 100000
open Go.RowKit

theorem Rd.new_fr {α : Type} {f : α → Value} (w : World) (g : Nat) (hg : g = w.heap.size) (l : List α) (cs : Array Value) (e : TypeId) (fr : Nat × Nat) (h : cs = (l.map f).toArray) : Rd f (w.alloc (.cells cs e fr)) (some ⟨g, 0, none⟩) l := fun _ => by
  subst hg
  refine ⟨w.heap.size, 0, rfl, fun i hi => ?_⟩
  subst h
  rw [cell_of_row _ w.heap.size (0 + i) _ e fr (heap_alloc_new w _)]
  simp [hi]
end Go.Proofs.Ytankddeolpickaa
/-
  What the call awake of layer 10's statements answers: true. No conditions.
-/
namespace Go.Proofs.Ytankddeolpickaa
set_option maxRecDepth 100000
open Go.RowKit
set_option linter.unusedSimpArgs false
set_option linter.unusedVariables false

theorem mw_put : putS [103, 97, 116, 101] 4 = [103, 97, 116, 101, 78, 216, 62, 31] := by decide +kernel
theorem mw_mend : mendS [103, 102, 116, 101, 78, 216, 246, 31] 4 = ([103, 97, 116, 101, 78, 216, 62, 31], 2, 0) := by
  have h := putS_fine [103, 97, 116, 101] 4 (by decide)
  rw [mw_put] at h
  have hd : difL [103, 102, 116, 101, 78, 216, 246, 31] [103, 97, 116, 101, 78, 216, 62, 31] = 2 := by decide +kernel
  have := mendS_near (b := [103, 102, 116, 101, 78, 216, 246, 31]) (a := [103, 97, 116, 101, 78, 216, 62, 31]) (n := 4) (by decide) (by decide) ⟨rfl, h, by rw [hd]; decide⟩
  rw [hd] at this
  exact this
theorem mw_bad : mendS [103, 102, 116, 100, 78, 216, 246, 31] 66 = ([], 0, 1) := mendS_bad (b := [103, 102, 116, 100, 78, 216, 246, 31]) (n := 66) (by decide)
theorem mw_most : mostN 10 = 5 := by decide
theorem strS (n : Nat) {w : World} {A : Option Addr} {l : List UInt8} {c : Nat} (H : Hid (l.length = n)) (h : Rd vB w A l) : ∀ W, Below w.heap.size w W → (convert 22 9 (.slice A n c)).run Try.prog W = .ok (.string (strL l)) W :=
  fun W hW => run_str W _ _ _ Try.underlying22 Try.underlying5 Try.underlying9 A l n c H.out (h.keep hW)

set_option maxRecDepth 100000 in
set_option maxHeartbeats 2000000 in
theorem awake10_any (w : World) : Calls Try.prog 6 #[] w fun e w' => e = .returned (.bool true) ∧ Below w.heap.size w w' := by
  obtain ⟨i0, hi, hz0, hz1, hz2⟩ := info_parts info_u8
  have hcv := Lib.run_convert_bytes_const (P := Try.prog) w 22 5 #[.int .u8 103, .int .u8 97, .int .u8 116, .int .u8 101] 4 4 Try.underlying22 Try.underlying5
  go_enter Try.func6, Try.ntmps6
  go_wp2_with fail
  clear hcv
  have hl0 : Rd vB (w.alloc (.cells #[.int .u8 103, .int .u8 97, .int .u8 116, .int .u8 101] 5 (4, 5))) (some ⟨w.heap.size, 0, none⟩) [103, 97, 116, 101] := Rd.new_fr w _ rfl _ _ _ _ rfl
  have hb0 := below_new (Below.refl _ w) (.cells #[.int .u8 103, .int .u8 97, .int .u8 116, .int .u8 101] 5 (4, 5))
  refine (putS_ok [103, 97, 116, 101] 4 4 _ _ _ (Lib.hid rfl) hl0 (by omega) (by omega) (by omega) (by omega)).mono ?_
  rintro e w1 ⟨A1, n1, c1, rfl, HN1, hc1, hr1, hb1⟩
  rw [mw_put] at HN1 hr1
  have en1 : n1 = 8 := HN1.out.symm
  subst en1
  have hB := below_step hb0 hb1
  clear hb0 hb1 hl0
  have hown0 : (w1.alloc (.cells #[] 5)).ownsRow w1.heap.size 5 1 (.slice (some ⟨w1.heap.size, 0, none⟩) 0 0) 0 [] := World.ownsRow_made w1 #[] 0 (Nat.le_refl _) (by unfold maxLen; omega) rfl
  have hB0 := below_new (Below.refl _ w1) (.cells #[] 5)
  have hrX0 := hr1.keep hB0
  go_upto_region 5 with (at_builtin; refine wpList_append_rd _ rfl (.tmp 19) (.tmp 20) 22 rfl w1.heap.size 5 i0 (.int .u8 0) 1 Try.underlying22 hi hz0 hz1 hz2 rfl _ _ _ rfl hown0 A1 [103, 97, 116, 101, 78, 216, 62, 31] c1 rfl hrX0 vB_one (by unfold maxLen; simp) (by simp) (by simp) ?_; intro v4 w4 hown4 hgrow4)
  have hown5 : w4.ownsRow w1.heap.size 5 1 v4 8 (([103, 97, 116, 101, 78, 216, 62, 31] : List UInt8).map vB) := hown4
  have hb4 : Below w1.heap.size w1 w4 := hB0.grown hgrow4 (by simp) (fun k hk => (hown0.lt k hk).1)
  obtain ⟨A4, c4, rfl, hc4⟩ := own_form hown5
  obtain ⟨g, rfl, hg, hcel0⟩ := cel_of_own hown5 rfl (by decide)
  have q1 : w4.cell? ⟨g, 1, none⟩ = some (.int .u8 97) := hcel0.get 1 (by decide)
  have f1 := hcel0.frozen 1
  have hcel1 : Cel (w4.setCell ⟨g, 1, none⟩ (.int .u8 102)) g 5 [103, 102, 116, 101, 78, 216, 62, 31] := hcel0.set 1 102
  have q2 : (w4.setCell ⟨g, 1, none⟩ (.int .u8 102)).cell? ⟨g, 6, none⟩ = some (.int .u8 62) := hcel1.get 6 (by decide)
  have f2 := hcel1.frozen 6
  have hcel2 : Cel ((w4.setCell ⟨g, 1, none⟩ (.int .u8 102)).setCell ⟨g, 6, none⟩ (.int .u8 246)) g 5 [103, 102, 116, 101, 78, 216, 246, 31] := hcel1.set 6 246
  have hb6 : Below w1.heap.size w1 ((w4.setCell ⟨g, 1, none⟩ (.int .u8 102)).setCell ⟨g, 6, none⟩ (.int .u8 246)) := (hb4.setCell (p := ⟨g, 1, none⟩) hg _).setCell (p := ⟨g, 6, none⟩) hg _
  have x1 : bits .xor .u8 97 7 = 102 := by decide
  have x2 : bits .xor .u8 62 200 = 246 := by decide
  have HX := Lib.hid hcel2
  clear hown0 hown4 hown5 hgrow4 hB0 hrX0 hcel0 hcel1 hb4 hcel2
  go_wp2_with fail
  clear q1 q2 f1 f2 x1 x2
  generalize (w4.setCell ⟨g, 1, none⟩ (.int .u8 102)).setCell ⟨g, 6, none⟩ (.int .u8 246) = w6 at HX hb6 ⊢
  have hgs : g < w6.heap.size := HX.out.lt
  have hB6 := below_step hB hb6
  have hgw : w.heap.size ≤ g := Nat.le_trans hB.size hg
  refine ((mendM_any [103, 102, 116, 101, 78, 216, 246, 31] 8 4 (some ⟨g, 0, none⟩) c4 w6 (Lib.hid rfl) HX.out.rd hc4 (by omega)).mono (fun _ _ h => h.to _ 2 2 0 mw_mend rfl)).mono ?_
  rintro e w7 ⟨A7, n7, c7, rfl, HN7, hc7, hr7, hb7, ha7⟩
  have en7 : n7 = 8 := HN7.out.symm
  subst en7
  have hcel7 := HX.out.later hb7
  have hb17 := below_step hb6 hb7
  have hB7 := below_step hB6 hb7
  clear hb6 hb7 HX hB6
  have q1 : w7.cell? ⟨g, 3, none⟩ = some (.int .u8 101) := hcel7.get 3 (by decide)
  have f1 := hcel7.frozen 3
  have hcel8 : Cel (w7.setCell ⟨g, 3, none⟩ (.int .u8 100)) g 5 [103, 102, 116, 100, 78, 216, 246, 31] := hcel7.set 3 100
  have x1 : bits .xor .u8 101 1 = 100 := by decide
  have hO : Only g w7 (w7.setCell ⟨g, 3, none⟩ (.int .u8 100)) := (Only.refl g w7).setCell 3 _
  have hr7' := hr7.only hO (fun _ a ha => by have := ha7 a ha; omega)
  have hb8 : Below w1.heap.size w1 (w7.setCell ⟨g, 3, none⟩ (.int .u8 100)) := hb17.setCell (p := ⟨g, 3, none⟩) hg _
  have hB8 : Below w.heap.size w (w7.setCell ⟨g, 3, none⟩ (.int .u8 100)) := hB7.setCell (p := ⟨g, 3, none⟩) hgw _
  have hgs8 : g < (w7.setCell ⟨g, 3, none⟩ (.int .u8 100)).heap.size := hcel8.lt
  clear hcel7 hO ha7 hr7 hb17 hB7 hgs
  go_wp2_with fail
  clear q1 f1 x1
  generalize w7.setCell ⟨g, 3, none⟩ (.int .u8 100) = w8 at hcel8 hr7' hb8 hB8 ⊢
  refine ((mendM_any [103, 102, 116, 100, 78, 216, 246, 31] 8 66 (some ⟨g, 0, none⟩) c4 w8 (Lib.hid rfl) hcel8.rd hc4 (by omega)).mono (fun _ _ h => h.to _ 0 0 1 mw_bad rfl)).mono ?_
  rintro e w9 ⟨A9, n9, c9, rfl, HN9, hc9, hr9, hb9, ha9⟩
  have en9 : n9 = 0 := HN9.out.symm
  subst en9
  have hB9 := below_step hB8 hb9
  have hrA := hr1.keep (below_step hb8 hb9)
  have hrB := hr7'.keep hb9
  have hs1 : (convert 22 9 (.slice A1 8 c1)).run Try.prog w9 = .ok (.string ⟨#[103, 97, 116, 101, 78, 216, 62, 31]⟩) w9 := run_str _ _ _ _ Try.underlying22 Try.underlying5 Try.underlying9 _ [103, 97, 116, 101, 78, 216, 62, 31] 8 c1 rfl hrA
  have hs2 : (convert 22 9 (.slice A7 8 c7)).run Try.prog w9 = .ok (.string ⟨#[103, 97, 116, 101, 78, 216, 62, 31]⟩) w9 := run_str _ _ _ _ Try.underlying22 Try.underlying5 Try.underlying9 _ [103, 97, 116, 101, 78, 216, 62, 31] 8 c7 rfl hrB
  have hmo := mostM_any 10 w9
  rw [mw_most] at hmo
  have HMO := Lib.hid hmo
  clear hmo hb8 hb9 hB8 hr9 hr1 hr7' hcel8
  go_wp2_with fail
  clear hs1 hs2
  refine HMO.out.mono ?_
  rintro e w10 ⟨rfl, rfl⟩
  go_wp2_with fail
  go_ret
  exact ⟨rfl, hB9⟩
end Go.Proofs.Ytankddeolpickaa
/-
  append of what reads as a list onto a row of the call's own: the row's block behind it is the one it was, or a new one; blocks known whole stay (no program is named here). No conditions but those typed.
-/
namespace Go.Proofs.Ytankddeolpickaa
set_option maxRecDepth 100000
open Go.RowKit

theorem Row.grown {w w' : World} {g : Nat} {t : TypeId} {l : List Value} {row : Option Nat} (h : Row w g t l) (hg : w.grownBy w' row) (hn : row ≠ some g) : Row w' g t l :=
  (hg.block g h.lt (fun e => hn e.symm)).trans h
/-- Apart from a block that was there. -/
theorem apart_of {w : World} {v v' : Value} {g : Nat} (h : v.ownBlock ≠ some g) (hg : g < w.heap.size) (hat : v'.ownBlock = v.ownBlock ∨ v'.ownBlock = some w.heap.size) : v'.ownBlock ≠ some g := by
  rcases hat with e | e
  · rw [e]; exact h
  · rw [e]
    intro h
    injection h with h
    omega
section
variable {P : Program} (w : World)
theorem run_append_apart {α : Type} {f : α → Value} (base : Nat) (t ty e : TypeId) (i : TypeInfo) (z : Value) (bytes : Nat) (ht : P.underlying t = some (.slice e)) (hi : P.info? e = some i) (hz : i.zero = some z)
    (hsize : i.size = 1) (hby : i.bytes = bytes) (hzs : z.cells.size = 1) (v : Value) (n : Nat) (xs : List Value) (hown : w.ownsRow base e 1 v n xs)
    (A : Option Addr) (l : List α) (c : Nat) (hr : Rd f w A l) (h1 : ∀ x, (f x).oneCell' = true)
    (h63 : n + l.length ≤ maxLen) (hbytes : (n + l.length) * bytes ≤ 140737488355328) (hbase : base ≤ w.heap.size) :
    ∃ v' w', (Builtin.append_ #[t, t] ty #[v, .slice A l.length c]).run P w = .ok v' w' ∧ w'.ownsRow base e 1 v' (n + l.length) (xs ++ l.map f) ∧ w.grownBy w' v.ownBlock ∧ (v'.ownBlock = v.ownBlock ∨ v'.ownBlock = some w.heap.size) := by
  have hone : ∀ u ∈ l.map f, u.oneCell' = true := by
    intro u hu
    simp only [List.mem_map] at hu
    obtain ⟨x, _, rfl⟩ := hu
    exact h1 x
  by_cases hl : l = []
  · subst hl
    cases A with
    | none => exact ⟨v, w, run_append_nothing_of w base t ty e i ht hi v n xs hown c, by simpa using hown, ⟨rfl, rfl, rfl, Nat.le_refl _, fun _ _ _ => rfl⟩, .inl rfl⟩
    | some ad =>
      obtain ⟨v', w', hrun, h2, h3, _, h4⟩ := run_append_own_at (P := P) w base t ty e i z 1 bytes ht hi hz hsize hby hzs (by omega) v n xs hown ad 0 c [] rfl (fun j u h => by simp at h) (fun u h => by simp at h) h63 hbytes hbase
      exact ⟨v', w', hrun, h2, h3, h4⟩
  · obtain ⟨b, o, rfl, _⟩ := hr hl
    obtain ⟨v', w', hrun, h2, h3, _, h4⟩ := run_append_own_at (P := P) w base t ty e i z 1 bytes ht hi hz hsize hby hzs (by omega) v n xs hown ⟨b, o, none⟩ l.length c (l.map f) (by simp) hr.news hone h63 hbytes hbase
    exact ⟨v', w', hrun, h2, h3, h4⟩

theorem wp_append_apart {α : Type} {f : α → Value} {o : Oper} {a : Act} {K : Act → World → Prop} {Q : Exit → Act → World → Prop} (s x : Operand) (t : TypeId)
    (ho : o.op = .call { callee := .builtin .append, args := #[s, x], argTypes := #[t, t] })
    (base : Nat) (e : TypeId) (i : TypeInfo) (z : Value) (bytes : Nat) (ht : P.underlying t = some (.slice e)) (hi : P.info? e = some i) (hz : i.zero = some z)
    (hsize : i.size = 1) (hby : i.bytes = bytes) (hzs : z.cells.size = 1) (v : Value) (n : Nat) (xs : List Value) (hs : a.eval s = v) (hown : w.ownsRow base e 1 v n xs)
    (A : Option Addr) (l : List α) (c : Nat) (hx : a.eval x = .slice A l.length c) (hr : Rd f w A l) (h1 : ∀ x, (f x).oneCell' = true)
    (h63 : n + l.length ≤ maxLen) (hbytes : (n + l.length) * bytes ≤ 140737488355328) (hbase : base ≤ w.heap.size)
    (h : ∀ v' w', w'.ownsRow base e 1 v' (n + l.length) (xs ++ l.map f) → w.grownBy w' v.ownBlock → (v'.ownBlock = v.ownBlock ∨ v'.ownBlock = some w.heap.size) → K (a.put o.dst v') w') : o.wp P a w K Q := by
  obtain ⟨v', w', hr, h2, h3, h4⟩ := run_append_apart (P := P) w base t o.type e i z bytes ht hi hz hsize hby hzs v n xs hown A l c hr h1 h63 hbytes hbase
  unfold Oper.wp execOp
  simp only [ho, resolve, invoke, builtin, Sem.run_bind, Sem.run_pure, Result.andThen_ok, List.map_toArray, List.map_cons, List.map_nil, hs, hx, hr]
  exact h v' w' h2 h3 h4

theorem wpList_append_apart {α : Type} {f : α → Value} {ops : Array Oper} {rest : List Oper} {o : Oper} {a : Act} {Q : Exit → Act → World → Prop} (hgd : o.guard = none) (s x : Operand) (t : TypeId)
    (ho : o.op = .call { callee := .builtin .append, args := #[s, x], argTypes := #[t, t] })
    (base : Nat) (e : TypeId) (i : TypeInfo) (z : Value) (bytes : Nat) (ht : P.underlying t = some (.slice e)) (hi : P.info? e = some i) (hz : i.zero = some z)
    (hsize : i.size = 1) (hby : i.bytes = bytes) (hzs : z.cells.size = 1) (v : Value) (n : Nat) (xs : List Value) (hs : a.eval s = v) (hown : w.ownsRow base e 1 v n xs)
    (A : Option Addr) (l : List α) (c : Nat) (hx : a.eval x = .slice A l.length c) (hr : Rd f w A l) (h1 : ∀ x, (f x).oneCell' = true)
    (h63 : n + l.length ≤ maxLen) (hbytes : (n + l.length) * bytes ≤ 140737488355328) (hbase : base ≤ w.heap.size)
    (h : ∀ v' w', w'.ownsRow base e 1 v' (n + l.length) (xs ++ l.map f) → w.grownBy w' v.ownBlock → (v'.ownBlock = v.ownBlock ∨ v'.ownBlock = some w.heap.size) → wpList P ops Q rest (a.put o.dst v') w') : wpList P ops Q (o :: rest) a w :=
  wpList_plain hgd fun _ hK => wp_append_apart w s x t ho base e i z bytes ht hi hz hsize hby hzs v n xs hs hown A l c hx hr h1 h63 hbytes hbase fun v' w' h2 h3 h4 => hK _ _ (h v' w' h2 h3 h4)
end
end Go.Proofs.Ytankddeolpickaa
/-
  Equations, solved row by row, as plain mathematics: each step keeps what solves them all; no pivot, and more than one answer would do. No conditions but those typed.
-/
namespace Go.Proofs.Ytankddeolpickaa
set_option maxRecDepth 100000
set_option linter.unusedVariables false
set_option linter.unusedSimpArgs false

/-- A sum of so many. -/
def sumN : Nat → (Nat → UInt8) → UInt8
  | 0, _ => 0
  | n + 1, f => addB (sumN n f) (f n)
theorem sumN_congr {f g : Nat → UInt8} : ∀ n, (∀ c, c < n → f c = g c) → sumN n f = sumN n g
  | 0, _ => rfl
  | n + 1, h => by rw [sumN, sumN, sumN_congr n (fun c hc => h c (by omega)), h n (by omega)]
theorem sumN_add (f g : Nat → UInt8) : ∀ n, sumN n (fun c => addB (f c) (g c)) = addB (sumN n f) (sumN n g)
  | 0 => (add_zero 0).symm
  | n + 1 => by rw [sumN, sumN, sumN, sumN_add f g n, add_four]
theorem sumN_mul (a : UInt8) (f : Nat → UInt8) : ∀ n, sumN n (fun c => mulB a (f c)) = mulB a (sumN n f)
  | 0 => (mul_zero a).symm
  | n + 1 => by rw [sumN, sumN, sumN_mul a f n, mul_add_right]
theorem sumN_zero {f : Nat → UInt8} : ∀ n, (∀ c, c < n → f c = 0) → sumN n f = 0
  | 0, _ => rfl
  | n + 1, h => by rw [sumN, sumN_zero n (fun c hc => h c (by omega)), h n (by omega), add_zero]
theorem sumN_one {f : Nat → UInt8} {i : Nat} : ∀ n, i < n → (∀ c, c < n → c ≠ i → f c = 0) → sumN n f = f i
  | 0, h, _ => absurd h (Nat.not_lt_zero i)
  | n + 1, h, hz => by
    rw [sumN]
    by_cases e : i = n
    · subst e
      rw [sumN_zero i (fun c hc => hz c (by omega) (by omega)), zero_add]
    · rw [sumN_one n (by omega) (fun c hc => hz c (by omega)), hz n (by omega) (fun e2 => e e2.symm), add_zero]
theorem sumN_left (f : Nat → UInt8) : ∀ n, sumN (n + 1) f = addB (f 0) (sumN n fun c => f (c + 1))
  | 0 => by
    show addB 0 (f 0) = addB (f 0) 0
    rw [zero_add, add_zero]
  | n + 1 => by
    rw [sumN, sumN_left f n, sumN, add_assoc]
theorem sumN_rev (f : Nat → UInt8) : ∀ n, sumN n (fun c => f (n - 1 - c)) = sumN n f
  | 0 => rfl
  | n + 1 => by
    rw [sumN_left, sumN, ← sumN_rev f n, add_comm]
    congr 1
    · exact sumN_congr n fun c hc => by rw [show n + 1 - 1 - (c + 1) = n - 1 - c by omega]

/-- A row's coefficients, times these, together. -/
def rowOf (n : Nat) (r : List UInt8) (y : Nat → UInt8) : UInt8 := sumN (n + 1) fun c => mulB (co r c) (y c)
/-- These solve all rows. -/
def Ker (n : Nat) (W : Nat → List UInt8) (y : Nat → UInt8) : Prop := ∀ j, j < n → rowOf n (W j) y = 0
def swapF {α : Type} (f : Nat → α) (i k : Nat) : Nat → α := fun j => if j = i then f k else if j = k then f i else f j
def scaleW (W : Nat → List UInt8) (i : Nat) (a : UInt8) : Nat → List UInt8 := fun j => if j = i then (W i).map (mulB a) else W j
def lessW (W : Nat → List UInt8) (i j : Nat) : List UInt8 := List.zipWith addB (W j) ((W i).map (mulB (co (W j) i)))
def elimW (W : Nat → List UInt8) (i m : Nat) : Nat → List UInt8 := fun j => if j < m ∧ j ≠ i then lessW W i j else W j
theorem row_scale (n : Nat) (a : UInt8) (r : List UInt8) (y : Nat → UInt8) : rowOf n (r.map (mulB a)) y = mulB a (rowOf n r y) := by
  unfold rowOf
  rw [← sumN_mul]
  refine sumN_congr _ fun c _ => ?_
  rw [← mul_assoc]
  congr 1
  exact co_scale a r c
theorem row_add (n : Nat) (r s : List UInt8) (y : Nat → UInt8) (hr : r.length = n + 1) (hs : s.length = n + 1) : rowOf n (List.zipWith addB r s) y = addB (rowOf n r y) (rowOf n s y) := by
  unfold rowOf
  rw [← sumN_add]
  refine sumN_congr _ fun c hc => ?_
  rw [co_zip r s c (by omega) (by omega), mul_add_left]
theorem ker_swap {n i k : Nat} {W : Nat → List UInt8} {y : Nat → UInt8} (hi : i < n) (hk : k < n) : Ker n (swapF W i k) y ↔ Ker n W y := by
  unfold Ker swapF
  constructor
  · intro h j hj
    by_cases e1 : j = i
    · subst e1
      by_cases e2 : k = j
      · have := h j hj
        rwa [if_pos rfl, e2] at this
      · have := h k hk
        rwa [if_neg e2, if_pos rfl] at this
    · by_cases e2 : j = k
      · subst e2
        have := h i hi
        rwa [if_pos rfl] at this
      · have := h j hj
        rwa [if_neg e1, if_neg e2] at this
  · intro h j hj
    split
    · exact h k hk
    · split
      · exact h i hi
      · exact h j hj
theorem ker_scale {n i : Nat} {W : Nat → List UInt8} {y : Nat → UInt8} {a : UInt8} (ha : a ≠ 0) : Ker n (scaleW W i a) y ↔ Ker n W y := by
  unfold Ker scaleW
  constructor
  · intro h j hj
    have := h j hj
    by_cases e : j = i
    · subst e
      rw [if_pos rfl, row_scale] at this
      rcases (mul_eq_zero _ _).1 this with g | g
      · exact absurd g ha
      · exact g
    · rwa [if_neg e] at this
  · intro h j hj
    by_cases e : j = i
    · subst e
      rw [if_pos rfl, row_scale, h j hj, mul_zero]
    · rw [if_neg e]
      exact h j hj
theorem less_row {n i j : Nat} {W : Nat → List UInt8} {y : Nat → UInt8} (hl : ∀ j, j < n → (W j).length = n + 1) (hi : i < n) (hj : j < n) : rowOf n (lessW W i j) y = addB (rowOf n (W j) y) (mulB (co (W j) i) (rowOf n (W i) y)) := by
  unfold lessW
  rw [row_add n _ _ y (hl j hj) (by rw [List.length_map]; exact hl i hi), row_scale]
theorem less_length {n i j : Nat} {W : Nat → List UInt8} (hl : ∀ j, j < n → (W j).length = n + 1) (hi : i < n) (hj : j < n) : (lessW W i j).length = n + 1 := by
  unfold lessW
  rw [List.length_zipWith, List.length_map, hl j hj, hl i hi, Nat.min_self]
theorem co_less {n i j : Nat} {W : Nat → List UInt8} (hl : ∀ j, j < n → (W j).length = n + 1) (hi : i < n) (hj : j < n) (c : Nat) (hc : c ≤ n) : co (lessW W i j) c = addB (co (W j) c) (mulB (co (W j) i) (co (W i) c)) := by
  unfold lessW
  rw [co_zip _ _ c (by rw [hl j hj]; omega) (by rw [List.length_map, hl i hi]; omega)]
  congr 1
  exact co_scale _ _ c
theorem ker_elim {n i : Nat} {W : Nat → List UInt8} {y : Nat → UInt8} (hl : ∀ j, j < n → (W j).length = n + 1) (hi : i < n) : Ker n (elimW W i n) y ↔ Ker n W y := by
  unfold Ker elimW
  constructor
  · intro h j hj
    have h0 : rowOf n (W i) y = 0 := by
      have := h i hi
      rwa [if_neg (by omega)] at this
    by_cases e : j = i
    · rw [e]
      exact h0
    · have := h j hj
      rw [if_pos ⟨hj, e⟩, less_row hl hi hj, h0, mul_zero, add_zero] at this
      exact this
  · intro h j hj
    split
    · rw [less_row hl hi hj, h j hj, h i hi, mul_zero, add_zero]
    · exact h j hj
/-- The first columns are done. -/
def Diag (i n : Nat) (W : Nat → List UInt8) : Prop := ∀ c, c < i → ∀ j, j < n → co (W j) c = if j = c then 1 else 0
theorem diag_step {n i k : Nat} {W : Nat → List UInt8} (hd : Diag i n W) (hl : ∀ j, j < n → (W j).length = n + 1) (hi : i < n) (hik : i ≤ k) (hk : k < n) (hp : co (W k) i ≠ 0) :
    Diag (i + 1) n (elimW (scaleW (swapF W i k) i (invB (co (W k) i))) i n) ∧ (∀ j, j < n → (elimW (scaleW (swapF W i k) i (invB (co (W k) i))) i n j).length = n + 1) ∧
    ∀ y, Ker n (elimW (scaleW (swapF W i k) i (invB (co (W k) i))) i n) y ↔ Ker n W y := by
  have hl1 : ∀ j, j < n → (swapF W i k j).length = n + 1 := fun j hj => by
    unfold swapF
    split
    · exact hl k hk
    · split
      · exact hl i hi
      · exact hl j hj
  have hl2 : ∀ j, j < n → (scaleW (swapF W i k) i (invB (co (W k) i)) j).length = n + 1 := fun j hj => by
    unfold scaleW
    split
    · rw [List.length_map]; exact hl1 i hi
    · exact hl1 j hj
  have hl3 : ∀ j, j < n → (elimW (scaleW (swapF W i k) i (invB (co (W k) i))) i n j).length = n + 1 := fun j hj => by
    unfold elimW
    split
    · exact less_length hl2 hi hj
    · exact hl2 j hj
  have hd1 : Diag i n (swapF W i k) := fun c hc j hj => by
    unfold swapF
    by_cases e1 : j = i
    · rw [if_pos e1, hd c hc k hk, if_neg (by omega), if_neg (by omega)]
    · rw [if_neg e1]
      by_cases e2 : j = k
      · rw [if_pos e2, hd c hc i hi, if_neg (by omega), if_neg (by omega)]
      · rw [if_neg e2, hd c hc j hj]
  have hd2 : Diag i n (scaleW (swapF W i k) i (invB (co (W k) i))) := fun c hc j hj => by
    unfold scaleW
    by_cases e1 : j = i
    · rw [if_pos e1]
      have : co ((swapF W i k i).map (mulB (invB (co (W k) i)))) c = mulB (invB (co (W k) i)) (co (swapF W i k i) c) := co_scale _ _ c
      rw [this, hd1 c hc i hi, if_neg (by omega), mul_zero, if_neg (by omega)]
    · rw [if_neg e1, hd1 c hc j hj]
  have hone : co (scaleW (swapF W i k) i (invB (co (W k) i)) i) i = 1 := by
    unfold scaleW
    rw [if_pos rfl]
    have : co ((swapF W i k i).map (mulB (invB (co (W k) i)))) i = mulB (invB (co (W k) i)) (co (swapF W i k i) i) := co_scale _ _ i
    rw [this]
    unfold swapF
    rw [if_pos rfl, mul_comm, mul_inv _ hp]
  generalize hW2 : scaleW (swapF W i k) i (invB (co (W k) i)) = W2 at hl2 hl3 hd2 hone ⊢
  refine ⟨fun c hc j hj => ?_, hl3, fun y => ?_⟩
  · unfold elimW
    by_cases e1 : j = i
    · rw [if_neg (by omega)]
      by_cases e2 : c = i
      · rw [e1, e2, hone, if_pos rfl]
      · rw [e1, hd2 c (by omega) i hi, if_neg (by omega)]
    · rw [if_pos ⟨hj, e1⟩, co_less hl2 hi hj c (by omega)]
      by_cases e2 : c = i
      · rw [e2, hone, mul_one, add_self, if_neg e1]
      · rw [hd2 c (by omega) j hj, hd2 c (by omega) i hi, if_neg (show ¬ i = c by omega), mul_zero, add_zero]
  · rw [ker_elim hl2 hi, ← hW2, ker_scale (inv_ne _ hp), ker_swap hi hk]
theorem no_pivot {n i : Nat} {W : Nat → List UInt8} (hd : Diag i n W) (hi : i < n) (hz : ∀ j, i ≤ j → j < n → co (W j) i = 0) : ∃ y : Nat → UInt8, y i = 1 ∧ y n = 0 ∧ Ker n W y := by
  refine ⟨fun c => if c = i then 1 else if c < i then co (W c) i else 0, if_pos rfl, by show (if n = i then (1 : UInt8) else if n < i then co (W n) i else 0) = 0; rw [if_neg (by omega), if_neg (by omega)], fun j hj => ?_⟩
  unfold rowOf
  have key : ∀ m, m ≤ n + 1 → sumN m (fun c => mulB (co (W j) c) (if c = i then 1 else if c < i then co (W c) i else 0)) = addB (if j < i ∧ j < m then co (W j) i else 0) (if i < m then co (W j) i else 0) := by
    intro m
    induction m with
    | zero => intro _; rw [if_neg (by omega), if_neg (by omega)]; rfl
    | succ m ih =>
      intro hm
      rw [sumN, ih (by omega)]
      by_cases e1 : m = i
      · subst e1
        rw [if_pos rfl, mul_one, if_neg (Nat.lt_irrefl m), if_pos (Nat.lt_succ_self m), add_zero]
        by_cases e3 : j < m
        · rw [if_pos ⟨e3, e3⟩, if_pos ⟨e3, by omega⟩]
        · rw [if_neg (by omega), if_neg (by omega)]
      · rw [if_neg e1]
        by_cases e2 : m < i
        · rw [if_pos e2, hd m e2 j hj, if_neg (show ¬ i < m by omega), if_neg (show ¬ i < m + 1 by omega), add_zero, add_zero]
          by_cases e3 : j = m
          · subst e3
            rw [if_pos rfl, one_mul, if_neg (by omega), if_pos ⟨e2, by omega⟩, zero_add]
          · rw [if_neg e3, zero_mul, add_zero]
            by_cases e4 : j < i ∧ j < m
            · rw [if_pos e4, if_pos ⟨e4.1, by omega⟩]
            · rw [if_neg e4, if_neg (by omega)]
        · rw [if_neg e2, mul_zero, add_zero]
          rw [if_pos (show i < m by omega), if_pos (show i < m + 1 by omega)]
          by_cases e4 : j < i
          · rw [if_pos ⟨e4, by omega⟩, if_pos ⟨e4, by omega⟩]
          · rw [if_neg (by omega), if_neg (by omega)]
  rw [key (n + 1) (Nat.le_refl _), if_pos (show i < n + 1 by omega)]
  by_cases e : j < i
  · rw [if_pos ⟨e, by omega⟩, add_self]
  · rw [if_neg (by omega), hz j (by omega) hj, add_zero]
theorem all_pivots {n : Nat} {W : Nat → List UInt8} {y : Nat → UInt8} (hd : Diag n n W) (hk : Ker n W y) (hy : y n = 1) : ∀ j, j < n → co (W j) n = y j := fun j hj => by
  have h := hk j hj
  unfold rowOf at h
  rw [sumN, hy, mul_one, sumN_one (i := j) n hj (fun c hc hne => by rw [hd c hc j hj, if_neg (fun e => hne e.symm), zero_mul]), hd j hj j hj, if_pos rfl, one_mul] at h
  exact (add_zero_eq h).symm
/-- What an answer says of the equations that were asked. -/
def Solved (n : Nat) (W : Nat → List UInt8) (ok : Bool) (x : List UInt8) : Prop :=
  (ok = true → x.length = n ∧ ∀ y, Ker n W y → y n = 1 → ∀ j, j < n → co x j = y j) ∧ (ok = false → ∃ (y : Nat → UInt8) (i : Nat), i < n ∧ y i = 1 ∧ y n = 0 ∧ Ker n W y)
theorem less_none {n i j : Nat} {W : Nat → List UInt8} (hl : ∀ j, j < n → (W j).length = n + 1) (hi : i < n) (hj : j < n) (h0 : co (W j) i = 0) : lessW W i j = W j := by
  refine co_ext (by rw [less_length hl hi hj, hl j hj]) (fun c hc => ?_)
  rw [less_length hl hi hj] at hc
  rw [co_less hl hi hj c (by omega), h0, zero_mul, add_zero]
end Go.Proofs.Ytankddeolpickaa
