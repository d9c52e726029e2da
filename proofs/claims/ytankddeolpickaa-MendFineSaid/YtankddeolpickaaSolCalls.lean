/-
  What the program's calls of layer 9 answer, over the landed code. No conditions but those typed.
-/
import Derived.Test.YtankddeolpickaaSolPut
import Derived.Test.YtankddeolpickaaPolyCalls
import Derived.Test.YtankddeolpickaaEqual
import Derived.Test.YtankddeolpickaaRev
namespace Go.Proofs.Ytankddeolpickaa
set_option maxRecDepth 100000
open Go.RowKit
set_option linter.unusedSimpArgs false
set_option linter.unusedVariables false

/-- A call that hands back a list of bytes and an error. -/
def RetE (w : World) (l : List UInt8) (k : Int) (e : Ending) (w' : World) : Prop := ∃ A n c, e = .returned (.tuple #[.slice A n c, .int .i64 k]) ∧ Hid (l.length = n) ∧ n ≤ c ∧ Rd vB w' A l ∧ Below w.heap.size w w'

/-! ### mayBe, place, polynomial -/
theorem maybe_yes (n : Nat) (w : World) (h1 : 1 ≤ n) (h2 : n ≤ 64) : Calls Try.prog 24 #[.int .i64 (n : Int)] w fun e w' => e = .returned (.bool true) ∧ w = w' := by
  have j1 : (1 : Int) ≤ (n : Int) := by omega
  have j2 : (n : Int) ≤ 64 := by omega
  go_enter Try.func24, Try.ntmps24
  go_wp2_with fail
  go_ret
  exact ⟨rfl, rfl⟩
theorem maybe_no (n : Int) (w : World) (h : n < 1 ∨ 64 < n) : Calls Try.prog 24 #[.int .i64 n] w fun e w' => e = .returned (.bool false) ∧ w = w' := by
  by_cases h1 : 1 ≤ n
  · have h2 : ¬ n ≤ 64 := by omega
    clear h
    go_enter Try.func24, Try.ntmps24
    go_wp2_with fail
    go_ret
    exact ⟨rfl, rfl⟩
  · clear h
    go_enter Try.func24, Try.ntmps24
    go_wp2_with fail
    go_ret
    exact ⟨rfl, rfl⟩
theorem place_any (i : Nat) (x : UInt8) (w : World) (hi : i < 254) (HX : Hid (powB 2 (i + 1) = x)) : Calls Try.prog 26 #[.int .i64 (i : Int)] w fun e w' => e = .returned (.int .u8 (x.toNat : Int)) ∧ w = w' := by
  have h1 := gfexp_any ((i : Int) + 1) w
  rw [show ((i : Int) + 1) = ((i + 1 : Nat) : Int) by omega, powZ_two (i + 1) (by omega), HX.out, show (((i + 1 : Nat)) : Int) = (i : Int) + 1 by omega] at h1
  have H1 := Lib.hid h1
  clear h1
  go_enter Try.func26, Try.ntmps26
  go_wp2_with fail
  refine H1.out.mono ?_
  rintro e w1 ⟨rfl, rfl⟩
  go_wp2_with fail
  go_ret
  exact ⟨rfl, rfl⟩
theorem poly_own (b : List UInt8) (n : Nat) (A : Option Addr) (c : Nat) (w : World) (HN : Hid (b.length = n)) (hr : Rd vB w A b) (hn : n ≤ 100000) :
    Calls Try.prog 22 #[.slice A n c] w (RetP w b.reverse) := by
  have e1 := HN.out
  subst e1
  go_enter Try.func22, Try.ntmps22
  go_wp2_with fail
  refine (clone_own b A c w hr (by omega)).mono ?_
  rintro e w1 ⟨v, rfl, ho, hb1⟩
  obtain ⟨A1, c1, rfl, hc1⟩ := own_form ho
  by_cases h0 : b.length = 0
  · have e0 : b = [] := List.eq_nil_of_length_eq_zero h0
    subst e0
    go_wp2_with fail
    refine (reverse_nil A1 c1 w1).mono ?_
    rintro e w2 ⟨⟨v2, rfl⟩, rfl⟩
    go_wp2_with fail
    go_ret
    exact ⟨_, rfl, ho, hb1⟩
  · obtain ⟨g, rfl, hg, _⟩ := cel_of_own ho rfl (by omega)
    obtain ⟨hcel, _, hle, hmax⟩ := celN_some ho rfl
    go_wp2_with fail
    refine (reverse_cel b b.length g c1 c1 w1 (Lib.hid rfl) hcel hc1 hn).mono ?_
    rintro e w2 ⟨⟨v2, rfl⟩, hcel2, ho2⟩
    have hown := hcel2.own (base := w.heap.size) hg (by rw [List.length_reverse]; exact hc1) hmax
    have hb2 := hb1.trans (ho2.below.mono hg)
    rw [List.length_reverse] at hown
    have HO := Lib.hid hown
    clear hown
    go_wp2_with fail
    go_ret
    exact ⟨_, rfl, by rw [List.length_reverse]; exact HO.out, hb2⟩
theorem poly_any (b : List UInt8) (n : Nat) (A : Option Addr) (c : Nat) (w : World) (HN : Hid (b.length = n)) (hr : Rd vB w A b) (hn : n ≤ 100000) :
    Calls Try.prog 22 #[.slice A n c] w (RetQ w b.reverse) := (poly_own b n A c w HN hr hn).mono fun _ _ h => h.any

/-! ### Gen -/
def GenI (n : Nat) (w : World) (g i : Value) (wr : World) : Prop :=
  ∃ (j : Nat) (A : Option Addr) (k c : Nat), j ≤ n ∧ i = .int .i64 (j : Int) ∧ g = .slice A k c ∧ Hid ((genL j).length = k) ∧ k ≤ c ∧ Rd vB wr A (genL j) ∧ Below w.heap.size w wr
set_option maxHeartbeats 2000000 in
theorem genS_ok (n : Nat) (w : World) (h1 : 1 ≤ n) (h2 : n ≤ 64) :
    Calls Try.prog 20 #[.int .i64 (n : Int)] w (RetE w (genL n) 0) := by
  go_enter Try.func20, Try.ntmps20
  go_wp2_with fail
  refine (maybe_yes n _ h1 h2).mono ?_
  rintro e w1 ⟨rfl, rfl⟩
  go_wp2_with fail
  go_loopw [4, 11] (fun g i wr => GenI n w g i wr) (fun _ i _ => n - (intOf i).toNat)
  case atStart => exact ⟨0, some ⟨w.heap.size, 0, none⟩, 1, 1, Nat.zero_le _, rfl, rfl, rfl, Nat.le_refl _, Rd.new w [1] _ _ rfl, below_new (Below.refl _ _) _⟩
  case round =>
    obtain ⟨j, A, k, c, hj, rfl, rfl, HK, hc, hr, hb⟩ := hrel
    by_cases h : j < n
    · have j1 : (j : Int) < (n : Int) := by omega
      have HKJ : Hid (k ≤ 100) := by unfold Hid; rw [← HK.out, (gen_is j).1]; omega
      obtain ⟨x, hx⟩ : ∃ x, powB 2 (j + 1) = x := ⟨_, rfl⟩
      have hg : genL (j + 1) = plainL (mulL (genL j) [x, 1]) := by rw [← hx]; rfl
      obtain ⟨p', hp'⟩ : ∃ p', genL (j + 1) = p' := ⟨_, rfl⟩
      rw [hp'] at hg
      have HG := Lib.hid hg
      have HP' := Lib.hid hp'
      have HX := Lib.hid hx
      clear hx hg hp'
      generalize genL j = p at HK hr HG
      go_wp2_with fail
      refine (place_any j x _ (by omega) HX).mono ?_
      rintro e w1 ⟨rfl, rfl⟩
      go_wp2_with fail
      have hl : Rd vB (wr.alloc (.cells #[.int .u8 (x.toNat : Int), .int .u8 1] 5)) (some ⟨wr.heap.size, 0, none⟩) [x, 1] := Rd.new wr [x, 1] _ _ rfl
      refine (mulP_any p [x, 1] k 2 A _ c _ _ HK (Lib.hid rfl) (hr.keep (below_new (Below.refl _ _) _)) hl hc (Nat.le_refl _) (by have := HKJ.out; omega) (by omega)).mono ?_
      rintro e w2 ⟨A2, n2, c2, rfl, HN2, hc2, hr2, hb2⟩
      rw [← HG.out] at HN2 hr2
      have hB := below_step (below_new hb _) hb2
      clear hb hb2 hl hr HK HG
      go_wp2_with fail
      go_roundw
      case rel => exact ⟨j + 1, A2, n2, c2, h, by go_num, rfl, by rw [HP'.out]; exact HN2, hc2, by rw [HP'.out]; exact hr2, hB⟩
      case measure => simp [intOf] <;> omega
    · have j1 : ¬ (j : Int) < (n : Int) := by omega
      have ej : j = n := by omega
      subst ej
      go_wp2_with fail
      go_ret2
      exact ⟨A, k, c, rfl, HK, hc, hr, hb⟩
theorem genS_no (n : Int) (w : World) (h : n < 1 ∨ 64 < n) :
    Calls Try.prog 20 #[.int .i64 n] w (RetE w [] 1) := by
  have HM := Lib.hid (maybe_no n w h)
  clear h
  go_enter Try.func20, Try.ntmps20
  go_wp2_with fail
  refine HM.out.mono ?_
  rintro e w1 ⟨rfl, rfl⟩
  go_wp2_with fail
  go_ret2
  exact ⟨none, 0, 0, rfl, Lib.hid rfl, Nat.le_refl _, Rd.nil, Below.refl _ _⟩

/-! ### Put -/
theorem putS_quo (d q r : List UInt8) (n : Nat) (h1 : 1 ≤ n) (hl : d.length + n ≤ 255) (hq : IsQuo (d ++ List.replicate n 0).reverse (genL n) q r) (hp : plainL r = r) :
    r.length ≤ n ∧ (d ++ List.replicate n 0).take (d.length + n - r.length) ++ r.reverse ++ (d ++ List.replicate n 0).drop (d.length + n - r.length + r.length) = putS d n := by
  obtain ⟨hG1, _, hG3⟩ := gen_is n
  have hrl : r.length ≤ n := by
    have := hq.2
    rw [hp] at this
    have := plain_len (genL n)
    omega
  refine ⟨hrl, ?_⟩
  have hz : (d ++ List.replicate n (0 : UInt8)).length = d.length + n := by rw [List.length_append, List.length_replicate]
  rw [Nat.sub_add_cancel (by omega), List.drop_of_length_le (by omega), List.append_nil, show d.length + n - r.length = d.length + (n - r.length) by omega, List.take_length_add_append, List.take_replicate, Nat.min_eq_left (by omega), List.append_assoc]
  refine putS_only d _ n h1 (by rw [List.length_append, List.length_replicate, List.length_reverse]; omega) hl (fun i i1 i2 => ?_)
  rw [val_append, List.length_append, List.length_replicate, List.length_reverse, Nat.sub_add_cancel hrl]
  have e1 : valB (List.replicate (n - r.length) 0 ++ r.reverse) (powB 2 i) = evalL r (powB 2 i) := by
    unfold valB
    rw [List.reverse_append, List.reverse_reverse, List.reverse_replicate]
    exact eval_congr (fun k => co_pad r _ k) _
  have e2 := eval_congr hq.1 (powB 2 i)
  rw [eval_add, eval_mul, hG3 i i1 i2, mul_zero, zero_add] at e2
  have e3 : evalL (d ++ List.replicate n 0).reverse (powB 2 i) = valB (d ++ List.replicate n 0) (powB 2 i) := rfl
  have e4 : valB (List.replicate n 0) (powB 2 i) = 0 := by
    unfold valB
    rw [List.reverse_replicate]
    exact eval_zeros n _
  rw [e3, val_append, e4, zero_add, List.length_replicate] at e2
  rw [e1, e2, add_self]
theorem gen_plain_ne (n : Nat) : plainL (genL n) ≠ [] := fun h => by
  have h1 := plain_eqv (genL n) n
  rw [h, (gen_is n).2.1, co_nil] at h1
  cases h1
/-- 'copy(d, s)' into a block whose first cells are bytes. -/
theorem wp_copy_cel {P : Program} {o : Oper} {a : Act} {w : World} {K : Act → World → Prop} {Q : Exit → Act → World → Prop} (d s : Operand) (dT sT : TypeId)
    (ho : o.op = .call { callee := .builtin .copy, args := #[d, s], argTypes := #[dT, sT] }) (elem : TypeId) (hu : P.underlying dT = some (.slice elem)) (hsz : (P.info? elem).map (·.size) = some 1)
    (g off dLen dCap : Nat) (A : Option Addr) (S : List UInt8) (sCap : Nat) (hd : a.eval d = .slice (some ⟨g, off, none⟩) dLen dCap) (hs : a.eval s = .slice A S.length sCap)
    (l : List UInt8) (t : TypeId) (hg : Cel w g t l) (hr : Rd vB w A S) (hle : S.length ≤ dLen) (hfit : off + S.length ≤ l.length)
    (h : ∀ w', Cel w' g t (l.take off ++ S ++ l.drop (off + S.length)) → Only g w w' → K (a.put o.dst (.int .i64 (S.length : Int))) w') : o.wp P a w K Q := by
  obtain ⟨L, h1, h2⟩ := hg
  have hlen : l.length ≤ L.length := by
    have := congrArg List.length h2
    rw [List.length_take, List.length_map] at this
    omega
  refine wp_copy_row d s dT sT ho elem hu hsz g off dLen dCap A S sCap hd hs L t h1 hr (fun _ => rfl) hle (by omega) ?_
  exact h _ ⟨_, h1.setRow _, cel_splice h2 off S hfit⟩ ((Only.refl g w).setRow _)
/-- 's[k:]' of a slice at the beginning of its block, whichever k. -/
theorem cut_some {P : Program} (t e : TypeId) (ht : P.underlying t = some (.slice e)) (hz : ∀ w, (sizeOf e).run P w = .ok 1 w) (g M m : Nat) (hm : m ≤ M) :
    ∃ off, (∀ w, (Instr.slice t (.slice (some ⟨g, 0, none⟩) M M) (some (.int .i64 ((M - m : Nat) : Int))) none none).run P w = .ok (.slice (some ⟨g, off, none⟩) m m) w) ∧ off + m ≤ M ∧ (off = M - m ∨ m = 0) := by
  by_cases h0 : m = 0
  · subst h0
    refine ⟨0, fun w => ?_, by omega, .inr rfl⟩
    have ht' : P.underlying t = some (.slice (P.elem t)) := by simp [Program.elem, ht]
    have he : P.elem t = e := by simp [Program.elem, ht]
    rw [run_slice_l w t (some ⟨g, 0, none⟩) M M ht' .i64 ((M - 0 : Nat) : Int) (by omega) (by omega), he, hz]
    simp [Result.andThen, sliced, Addr.add]
  · refine ⟨M - m, fun w => ?_, by omega, .inl rfl⟩
    have := run_cut_at (P := P) t e ht hz g 0 M M (M - m) (by omega) (Nat.le_refl _) (by omega) w
    rw [Nat.zero_add, show M - (M - m) = m by omega] at this
    exact this
set_option maxHeartbeats 2000000 in
theorem putS_ok (d : List UInt8) (len n : Nat) (A : Option Addr) (c : Nat) (w : World) (HN : Hid (d.length = len)) (hr : Rd vB w A d) (hc : len ≤ c) (h1 : 1 ≤ n) (h2 : n ≤ 64) (hl : len + n ≤ 255) :
    Calls Try.prog 10 #[.slice A len c, .int .i64 (n : Int)] w (RetE w (putS d n) 0) := by
  obtain ⟨i0, hi, hz0, hz1, hz2⟩ := info_parts info_u8
  have e1 := HN.out
  subst e1
  have HM := Lib.hid (genS_ok n w h1 h2)
  have HNE := Lib.hid (gen_plain_ne n)
  have HG1 := Lib.hid (gen_is n).1
  have HP : Hid (∀ q r, IsQuo (d ++ List.replicate n 0).reverse (genL n) q r → plainL r = r → _) := fun q r a b => putS_quo d q r n h1 hl a b
  have HPL := Lib.hid (putS_length d n h1)
  obtain ⟨F, hF⟩ : ∃ F, putS d n = F := ⟨_, rfl⟩
  rw [hF] at HP HPL ⊢
  clear hF
  have j1 : ¬ (255 : Int) - (n : Int) < (d.length : Int) := by omega
  obtain ⟨M, hM⟩ : ∃ M : Nat, M = d.length + n := ⟨_, rfl⟩
  have m0 : (d.length : Int) + (n : Int) = (M : Int) := by omega
  rw [← hM] at HP HPL
  have hMd : d.length ≤ M := by omega
  have hM2 : M ≤ 255 := by omega
  have HMd : Hid (M - d.length = n) := by unfold Hid; omega
  have hnM : n ≤ M := by omega
  clear hM
  go_enter Try.func10, Try.ntmps10
  go_wp2_with fail
  refine HM.out.mono ?_
  rintro e w1 ⟨A1, n1, c1, rfl, HN1, hc1, hr1, hb1⟩
  have hn1 : n1 ≤ 100 := by rw [← HN1.out, HG1.out]; omega
  generalize genL n = G at HN1 hr1 HNE HP
  replace hr := hr.keep hb1
  clear HM HG1
  go_upto_region 7 with (at_make; refine wpList_make_full _ rfl _ _ 22 rfl w1.heap.size 5 i0 (.int .u8 0) 1 Try.underlying22 hi hz0 hz1 .i64 .i64 _ _ M rfl rfl rfl rfl (by rw [hz2]; omega) (by unfold maxLen; omega) (Nat.le_refl _) ?_; intro w0 hown0 hgrow0)
  rw [Nat.mul_one, show (Value.int .u8 0).cells = #[.int .u8 0] from rfl, toList_madeCells_one, zeros_map] at hown0
  obtain ⟨hc0, _, _⟩ := cel_some hown0 List.length_replicate
  have hB0 : Below w1.heap.size w1 w0 := (Below.refl _ _).grown hgrow0 (Nat.le_refl _) (by simp)
  have hr0 := hr.keep hB0
  have hr10 := hr1.keep hB0
  have hgw : w.heap.size ≤ w1.heap.size := hb1.size
  have hB := below_step hb1 hB0
  have hAG := hr1.apart (Nat.le_refl _)
  generalize hgd : w1.heap.size = g at hc0 hgw hAG ⊢
  clear hown0 hgrow0 hr hr1 m0 hgd
  go_upto_region 8 with (refine wpList_copy_cel rfl (.tmp 30) (.tmp 31) 22 22 rfl 5 Try.underlying22 (by kernel_rfl) g 0 M M A d c rfl rfl (List.replicate M 0) 5 hc0 hr0 hMd (by rw [List.length_replicate]; omega) ?_; intro w3 hc3 ho3)
  have e0 : (List.replicate M (0 : UInt8)).take 0 ++ d ++ (List.replicate M 0).drop (0 + d.length) = d ++ List.replicate n 0 := by
    rw [List.take_zero, List.nil_append, List.drop_replicate, Nat.zero_add, HMd.out]
  rw [e0] at hc3
  have HZL : Hid ((d ++ List.replicate n (0 : UInt8)).length = M) := by
    unfold Hid
    rw [List.length_append, List.length_replicate]
    have := HMd.out
    omega
  have hr13 := hr10.only ho3 hAG
  have hg3 : g < w3.heap.size := hc3.lt
  have hBB := hB.trans (ho3.below.mono hgw)
  generalize d ++ List.replicate n (0 : UInt8) = Z at hc3 HZL HP
  clear e0 hc0 hr0 hr10 hB ho3 hB0
  go_wp2_with fail
  refine (poly_any Z M (some ⟨g, 0, none⟩) M w3 HZL hc3.rd (by omega)).mono ?_
  rintro e w4 ⟨A4, n4, c4, rfl, HN4, hc4, hr4, hb4⟩
  have hn4 : n4 ≤ 255 := by rw [← HN4.out, List.length_reverse, HZL.out]; exact hM2
  have hcel4 := hc3.later hb4
  have hBB4 := below_step hBB hb4
  have hs4 := hb4.size
  generalize Z.reverse = Zr at HN4 hr4 HP
  go_wp2_with fail
  refine (quoP_good Zr G n4 n1 A4 A1 c4 c1 w4 HN4 HN1 hr4 (hr13.keep hb4) hc4 hc1 (by omega) (by omega) HNE).mono ?_
  rintro e w5 ⟨a, r, A5, B5, n5, m5, c5, d5, rfl, HA5, HR5, hn5, hm5, hra, hrr, hb5, HQ⟩
  obtain ⟨hrl, hfin⟩ := HP.out a r HQ.out.1 HQ.out.2.2
  rw [HR5.out] at hrl hfin
  have hcel5 := hcel4.later hb5
  have hBB5 := below_step hBB4 hb5
  have hs5 := hb5.size
  have hmM : m5 ≤ M := by omega
  obtain ⟨off, hcut, hoff1, hoff2⟩ := cut_some (P := Try.prog) 22 5 Try.underlying22 size_uint8 g M m5 hmM
  have mk : (M : Int) - (m5 : Int) = ((M - m5 : Nat) : Int) := by omega
  have mw : IntKind.i64.wrap ((M : Int) - (m5 : Int)) = (M : Int) - (m5 : Int) := by rw [IntKind.wrap_i64]; omega
  rw [← mk] at hcut
  have HF : Hid (Z.take off ++ r.reverse ++ Z.drop (off + r.reverse.length) = F) := by
    unfold Hid
    rw [List.length_reverse, HR5.out]
    rcases hoff2 with e | e
    · rw [e]; exact hfin
    · have er : r = [] := List.eq_nil_of_length_eq_zero (by rw [HR5.out, e])
      rw [er, e] at hfin ⊢
      simp only [List.reverse_nil, List.append_nil, Nat.add_zero, List.take_append_drop] at hfin ⊢
      exact hfin
  have HCUT := Lib.hid hcut
  have HMK := Lib.hid mk
  have HRR : Hid (r.reverse.length = m5) := by unfold Hid; rw [List.length_reverse, HR5.out]
  have hbase5 : Below g w5 w5.drew := (Below.refl _ _).drew
  clear hcut mk hfin hoff2 HQ hra HA5 hcel4 hc3 hr4 HP HNE HN4 HN1 hr13 hb5 hb4 hBB4 hBB hc1 hc4 hn1 hn4 hrl hn5
  go_upto_region 9 with fail
  refine wp_region_plan_at g (.step 0 false (.step 1 false (.step 2 false (.step 3 false (.step 4 false (.step 5 false (.step 6 false (.step 7 false (.step 8 true (.step 9 true (.nil))))))))))) (by kernel_rfl) (by kernel_rfl) (by rfl) (by kernel_rfl) ?_
  have hBase := hbase5
  have hcutW := HCUT.out
  iterate 8 (refine plan_read rfl (by rfl) (v := ?_) ?_ ?_; rotate_left 1; (intro W hW; have hW0 := Below.trans hBase hW; (try dsimp only at hW); go_simp <;> with_reducible rfl); simp only [List.getElem_toArray, List.getElem_cons_zero, List.getElem_cons_succ, Act.put, List.setIfInBounds_toArray, List.set_cons_zero, List.set_cons_succ])
  (refine plan_make_at rfl (by rfl) (fun K hK => ?_); go_simp; refine (poly_any r m5 B5 d5 _ HR5 (hrr.keep (Below.refl _ w5).drew) (by omega)).mono ?_; rintro e w6 ⟨A6, n6, c6, rfl, HN6, hc6, hr6, hb6⟩; have hz6 : w5.heap.size ≤ w6.heap.size := hb6.size; refine hK.out _ _ (hb6.mono (by change g ≤ w5.heap.size; omega)) ?_; clear hK K; replace hBase := hBase.trans (hb6.mono (by change g ≤ w5.heap.size; omega)))
  have hcel6 := hcel5.drew.later hb6
  have hBB6 := below_step hBB5.drew hb6
  generalize r.reverse = T at HN6 hr6 HF HRR
  have e6 := HN6.out
  subst e6
  have hTm : T.length ≤ m5 := Nat.le_of_eq HRR.out
  have hfit : off + T.length ≤ Z.length := by rw [HZL.out, HRR.out]; exact hoff1
  (refine plan_make_at rfl (by rfl) (fun K hK => ?_); refine wp_copy_cel (.tmp 47) (.tmp 49) 22 22 rfl 5 Try.underlying22 (by kernel_rfl) g off m5 m5 A6 T c6 rfl rfl Z 5 hcel6 hr6 hTm hfit ?_; intro w7 hc7 ho7; refine hK.out _ _ ho7.below ?_; clear hK K)
  refine plan_done ?_
  rw [HF.out] at hc7
  have hrF := hc7.rd
  have hBF := hBB6.trans (ho7.below.mono hgw)
  clear hcel6 hcel5 hc7 ho7 hBase
  go_wp2_with fail
  go_ret2
  exact ⟨_, M, M, rfl, HPL.out, Nat.le_refl _, hrF, hBF⟩
theorem putS_no (d : List UInt8) (len : Nat) (n : Int) (A : Option Addr) (c : Nat) (w : World) (HN : Hid (d.length = len)) (hr : Rd vB w A d) (hc : len ≤ c) (hl : len ≤ 100000) (h : n < 1 ∨ 64 < n) :
    Calls Try.prog 10 #[.slice A len c, .int .i64 n] w (RetE w [] 1) := by
  have HM := Lib.hid (genS_no n w h)
  clear h
  go_enter Try.func10, Try.ntmps10
  go_wp2_with fail
  refine HM.out.mono ?_
  rintro e w1 ⟨A1, n1, c1, rfl, HN1, hc1, hr1, hb1⟩
  go_wp2_with fail
  go_ret2
  exact ⟨none, 0, 0, rfl, Lib.hid rfl, Nat.le_refl _, Rd.nil, hb1⟩
theorem putS_long (d : List UInt8) (len n : Nat) (A : Option Addr) (c : Nat) (w : World) (HN : Hid (d.length = len)) (hr : Rd vB w A d) (hc : len ≤ c) (h1 : 1 ≤ n) (h2 : n ≤ 64) (hl : 255 < len + n) (hl2 : len ≤ 100000) :
    Calls Try.prog 10 #[.slice A len c, .int .i64 (n : Int)] w (RetE w [] 4) := by
  have HM := Lib.hid (genS_ok n w h1 h2)
  have j1 : (255 : Int) - (n : Int) < (len : Int) := by omega
  go_enter Try.func10, Try.ntmps10
  go_wp2_with fail
  refine HM.out.mono ?_
  rintro e w1 ⟨A1, n1, c1, rfl, HN1, hc1, hr1, hb1⟩
  go_wp2_with fail
  go_ret2
  exact ⟨none, 0, 0, rfl, Lib.hid rfl, Nat.le_refl _, Rd.nil, hb1⟩

/-! ### Signs, Fine -/
def SigRel (b : List UInt8) (n g : Nat) (w : World) (i : Value) (wr : World) : Prop :=
  ∃ (k : Nat) (T : List UInt8), k ≤ n ∧ i = .int .i64 (k : Int) ∧ T.length = n ∧ (∀ j, j < k → co T j = sigF b j) ∧ Cel wr g 5 T ∧ Below w.heap.size w wr
set_option maxHeartbeats 2000000 in
theorem signsS_ok (b : List UInt8) (len n : Nat) (A : Option Addr) (c : Nat) (w : World) (HN : Hid (b.length = len)) (hr : Rd vB w A b) (hc : len ≤ c) (h1 : 1 ≤ n) (h2 : n ≤ 64) (h3 : n ≤ len) (h4 : len ≤ 255) :
    Calls Try.prog 12 #[.slice A len c, .int .i64 (n : Int)] w (RetE w (signsL b n) 0) := by
  obtain ⟨i0, hi, hz0, hz1, hz2⟩ := info_parts info_u8
  have HM := Lib.hid (maybe_yes n w h1 h2)
  have j1 : ¬ (len : Int) < (n : Int) := by omega
  have j2 : ¬ (255 : Int) < (len : Int) := by omega
  go_enter Try.func12, Try.ntmps12
  go_wp2_with fail
  refine HM.out.mono ?_
  rintro e w1 ⟨rfl, rfl⟩
  go_wp2_with fail
  refine (poly_any b len A c w HN hr (by omega)).mono ?_
  rintro e w2 ⟨A2, n2, c2, rfl, HN2, hc2, hr2, hb2⟩
  have hn2 : n2 ≤ 255 := by rw [← HN2.out, List.length_reverse, HN.out]; exact h4
  have hgw := hb2.size
  clear j1 j2 HM
  go_upto_region 9 with (at_make; refine wpList_make_full _ rfl _ _ 22 rfl w2.heap.size 5 i0 (.int .u8 0) 1 Try.underlying22 hi hz0 hz1 .i64 .i64 _ _ n rfl rfl rfl rfl (by rw [hz2]; omega) (by unfold maxLen; omega) (Nat.le_refl _) ?_; intro w0 hown0 hgrow0)
  rw [Nat.mul_one, show (Value.int .u8 0).cells = #[.int .u8 0] from rfl, toList_madeCells_one, zeros_map] at hown0
  obtain ⟨hc0, _, _⟩ := cel_some hown0 List.length_replicate
  have hB0 : Below w2.heap.size w2 w0 := (Below.refl _ _).grown hgrow0 (Nat.le_refl _) (by simp)
  generalize hgd : w2.heap.size = g at hc0 ⊢
  have hgl : w2.heap.size ≤ g := Nat.le_of_eq hgd
  clear hown0 hgrow0
  go_wp2_with fail
  go_loopw [28] (fun i wr => SigRel b n g w2 i wr) (fun i _ => n - (intOf i).toNat)
  case atStart => exact ⟨0, List.replicate n 0, Nat.zero_le _, rfl, List.length_replicate, fun j hj => absurd hj (Nat.not_lt_zero j), hc0, hB0⟩
  case round =>
    clear hc0 hB0
    obtain ⟨k, T, hk, rfl, hT, hS, hcel, hB⟩ := hrel
    by_cases h : k < n
    · have k1 : (k : Int) < (n : Int) := by omega
      have k0 : (0 : Int) ≤ (k : Int) := by omega
      obtain ⟨x, hx⟩ : ∃ x, powB 2 (k + 1) = x := ⟨_, rfl⟩
      have HX := Lib.hid hx
      obtain ⟨y, hy⟩ : ∃ y, sigF b k = y := ⟨_, rfl⟩
      have HE : Hid (evalL b.reverse x = y) := by rw [← hx, ← hy]; rfl
      have hEv := fun W (hW : Below w2.heap.size w2 W) => evalP_any b.reverse x n2 A2 c2 W HN2 (hr2.keep hW) hc2 (by omega)
      rw [HE.out] at hEv
      have HEv := Lib.hid hEv
      have HS : Hid (∀ W, Cel W g 5 (T.set k y) → Below w2.heap.size w2 W → SigRel b n g w2 (.int .i64 ((k : Int) + 1)) W) := fun W h1 h2 =>
        ⟨k + 1, T.set k y, h, by go_num, by rw [List.length_set]; exact hT, fun j hj => by
          rw [co_set _ _ _ _ (by omega)]
          split
          · next e => rw [e, hy]
          · exact hS j (by omega), h1, h2⟩
      have hkT : k < T.length := by omega
      clear hEv hx hy hS
      go_wp2_with fail
      refine (place_any k x _ (by omega) HX).mono ?_
      rintro e w3 ⟨rfl, rfl⟩
      go_wp2_with fail
      refine (HEv.out _ hB).mono ?_
      rintro e w4 ⟨rfl, hb4⟩
      have hcel4 := hcel.later hb4
      have hB4 := below_step hB hb4
      have hc4 := hcel4.get k hkT
      have hf4 := hcel4.frozen k
      have HR := Lib.hid (HS.out _ (hcel4.set k y) (hB4.setCell (p := ⟨g, k, none⟩) hgl (.int .u8 (y.toNat : Int))))
      clear hcel hB hcel4 hB4 hb4
      go_wp2_with fail
      go_roundw
      case rel => exact HR.out
      case measure => simp [intOf] <;> omega
    · have ek : k = n := by omega
      subst ek
      have j1 : ¬ (k : Int) < (k : Int) := by omega
      have HT : Hid (T = signsL b k) := by
        rw [← signs_tab]
        refine co_ext (by rw [hT, signs_tab, signs_length]) (fun j hj => ?_)
        rw [hT] at hj
        rw [hS j hj, signs_tab, co_lt _ j (by rw [signs_length]; exact hj)]
        simp [signsL, sigF]
      have hBw := below_step hb2 hB
      have hrT := hcel.rd
      rw [HT.out] at hrT hT
      have HTL := Lib.hid hT
      clear hT hS hcel hB
      go_wp2_with fail
      go_ret2
      exact ⟨_, k, k, rfl, HTL, Nat.le_refl _, hrT, hBw⟩
theorem signsS_no (b : List UInt8) (len : Nat) (n : Int) (A : Option Addr) (c : Nat) (w : World) (HN : Hid (b.length = len)) (hr : Rd vB w A b) (hc : len ≤ c) (hl : len ≤ 100000) (h : Hid (errS len n ≠ 0)) :
    Calls Try.prog 12 #[.slice A len c, .int .i64 n] w (RetE w [] (errS len n)) := by
  have hE := h.out
  unfold errS at hE ⊢
  by_cases h1 : n < 1 ∨ 64 < n
  · rw [if_pos h1]
    have HM := Lib.hid (maybe_no n w h1)
    clear hE h1 h
    go_enter Try.func12, Try.ntmps12
    go_wp2_with fail
    refine HM.out.mono ?_
    rintro e w1 ⟨rfl, rfl⟩
    go_wp2_with fail
    go_ret2
    exact ⟨none, 0, 0, rfl, Lib.hid rfl, Nat.le_refl _, Rd.nil, Below.refl _ _⟩
  · rw [if_neg h1] at hE ⊢
    obtain ⟨m, rfl⟩ : ∃ m : Nat, n = (m : Int) := ⟨n.toNat, by omega⟩
    have HM := Lib.hid (maybe_yes m w (by omega) (by omega))
    by_cases h2 : (len : Int) < (m : Int)
    · rw [if_pos h2]
      clear hE h1 h
      go_enter Try.func12, Try.ntmps12
      go_wp2_with fail
      refine HM.out.mono ?_
      rintro e w1 ⟨rfl, rfl⟩
      go_wp2_with fail
      go_ret2
      exact ⟨none, 0, 0, rfl, Lib.hid rfl, Nat.le_refl _, Rd.nil, Below.refl _ _⟩
    · rw [if_neg h2] at hE ⊢
      by_cases h4 : 255 < len
      · rw [if_pos h4]
        have j4 : (255 : Int) < (len : Int) := by omega
        clear hE h1 h
        go_enter Try.func12, Try.ntmps12
        go_wp2_with fail
        refine HM.out.mono ?_
        rintro e w1 ⟨rfl, rfl⟩
        go_wp2_with fail
        go_ret2
        exact ⟨none, 0, 0, rfl, Lib.hid rfl, Nat.le_refl _, Rd.nil, Below.refl _ _⟩
      · rw [if_neg h4] at hE
        exact absurd rfl hE
theorem all_zero_eq (n : Nat) : ∀ l : List UInt8, l.length = n → decide (l = List.replicate n 0) = l.all (· == 0) := fun l hl => by
  rw [Bool.eq_iff_iff, decide_eq_true_eq, List.all_eq_true]
  constructor
  · rintro rfl x hx
    rw [(List.mem_replicate.1 hx).2]
    rfl
  · intro h
    exact List.eq_replicate_iff.2 ⟨hl, fun x hx => by simpa using h x hx⟩
theorem fineS_any (b : List UInt8) (len : Nat) (n : Int) (A : Option Addr) (c : Nat) (w : World) (HN : Hid (b.length = len)) (hr : Rd vB w A b) (hc : len ≤ c) (hl : len ≤ 100000) :
    Calls Try.prog 11 #[.slice A len c, .int .i64 n] w fun e w' => e = .returned (.bool (fineS b n)) ∧ Below w.heap.size w w' := by
  by_cases h0 : errS len n = 0
  · obtain ⟨m, rfl, h1, h2, h3, h4⟩ := errS_cases len n h0
    have HF : Hid (fineS b (m : Int) = decide (signsL b m = List.replicate m 0)) := by
      unfold Hid fineS
      rw [HN.out, h0, all_zero_eq m _ (signs_length b m)]
      rfl
    have HM := Lib.hid (signsS_ok b len m A c w HN hr hc h1 h2 h3 h4)
    rw [HF.out]
    clear h0
    go_enter Try.func11, Try.ntmps11
    go_wp2_with fail
    refine HM.out.mono ?_
    rintro e w1 ⟨A1, n1, c1, rfl, HN1, hc1, hr1, hb1⟩
    obtain ⟨i0, hi, hz0, hz1, hz2⟩ := info_parts info_u8
    have hmk := run_makeSlice (P := Try.prog) (w := w1) 22 5 i0 (.int .u8 0) Try.underlying22 hi hz0 .i64 .i64 (m : Int) (m : Int) (by omega) (Int.le_refl _) (by rw [hz1]; omega) (by rw [hz2]; omega) (by omega)
    rw [hz1, Int.toNat_natCast, Nat.mul_one] at hmk
    have hZ : madeCells (Value.int .u8 0).cells m = ((List.replicate m (0 : UInt8)).map vB).toArray := by
      apply Array.toList_inj.1
      rw [show (Value.int .u8 0).cells = #[.int .u8 0] from rfl, toList_madeCells_one, zeros_map]
    rw [hZ] at hmk
    have hrz := Rd.new (f := vB) w1 (List.replicate m (0 : UInt8)) _ 5 rfl
    have hB1 := below_new (Below.refl _ w1) (.cells ((List.replicate m (0 : UInt8)).map vB).toArray 5)
    have hr1' := hr1.keep hB1
    have hBB := below_step hb1 hB1
    have HZL : Hid ((List.replicate m (0 : UInt8)).length = m) := List.length_replicate
    generalize hZe : List.replicate m (0 : UInt8) = Z at hmk hrz hB1 hr1' hBB HZL ⊢
    have HZE := Lib.hid hZe
    have HRZ := Lib.hid hrz
    have HR1 := Lib.hid hr1'
    have HBB := Lib.hid hBB
    clear hrz hr1' hBB hB1 hZ hZe
    go_wp2_with fail
    refine (equal_any (signsL b m) Z n1 m A1 _ c1 m _ HN1 HZL HR1.out HRZ.out).mono ?_
    rintro e w2 ⟨rfl, rfl⟩
    obtain ⟨r, hr0⟩ : ∃ r, decide (signsL b m = Z) = r := ⟨_, rfl⟩
    have HD := Lib.hid hr0
    rw [hr0]
    clear hr0
    go_wp2_with fail
    go_ret
    exact ⟨by rw [HZE.out, HD.out]; rfl, HBB.out⟩
  · have HM := Lib.hid (signsS_no b len n A c w HN hr hc hl (Lib.hid h0))
    have HF : Hid (fineS b n = false) := by
      unfold Hid fineS
      rw [HN.out, decide_eq_false h0]
      rfl
    rw [HF.out]
    generalize errS len n = k at HM h0
    have hk : (k == 0) = false := beq_eq_false_iff_ne.2 h0
    clear h0
    go_enter Try.func11, Try.ntmps11
    go_wp2_with fail
    refine HM.out.mono ?_
    rintro e w1 ⟨A1, n1, c1, rfl, HN1, hc1, hr1, hb1⟩
    go_wp2_with fail
    go_ret
    exact ⟨rfl, hb1⟩
end Go.Proofs.Ytankddeolpickaa
