/-
  What the program's calls of layer 9 answer, over the landed code. No conditions but those typed.
-/
import Derived.Test.YteppocjgodmpdaaDoorQ5
import Derived.Lib.SlBytesConst
import Derived.Deep.DeepCutAuto
import Derived.StillTailTactics
import Derived.BigQuiet
import Derived.ProofKit
import Derived.OpenShut
import Derived.Deep.Slices
import Derived.Deep.Strs
namespace Go.Proofs.YteppocjgodmpdaaDoor
set_option maxRecDepth 100000
open Go.RowKit
set_option linter.unusedSimpArgs false
set_option linter.unusedVariables false

/-- A call that hands back a list of bytes and an error. -/
def RetSE (w : World) (l : List UInt8) (k : Int) (e : Ending) (w' : World) : Prop := ∃ A n c, e = .returned (.tuple #[.slice A n c, .int .i64 k]) ∧ Hid (l.length = n) ∧ n ≤ c ∧ Rd vB w' A l ∧ Below w.heap.size w w'

/-! ### mayBe, place, polynomial -/
theorem maybe_yes (n : Nat) (w : World) (h1 : 1 ≤ n) (h2 : n ≤ 64) : Calls Tryd.prog 41 #[.int .i64 (n : Int)] w fun e w' => e = .returned (.bool true) ∧ w = w' := by
  have j1 : (1 : Int) ≤ (n : Int) := by omega
  have j2 : (n : Int) ≤ 64 := by omega
  go_enter Tryd.func41, Tryd.ntmps41
  go_wp2_with fail
  go_ret
  exact ⟨rfl, rfl⟩
theorem maybe_no (n : Int) (w : World) (h : n < 1 ∨ 64 < n) : Calls Tryd.prog 41 #[.int .i64 n] w fun e w' => e = .returned (.bool false) ∧ w = w' := by
  by_cases h1 : 1 ≤ n
  · have h2 : ¬ n ≤ 64 := by omega
    clear h
    go_enter Tryd.func41, Tryd.ntmps41
    go_wp2_with fail
    go_ret
    exact ⟨rfl, rfl⟩
  · clear h
    go_enter Tryd.func41, Tryd.ntmps41
    go_wp2_with fail
    go_ret
    exact ⟨rfl, rfl⟩
theorem place_any (i : Nat) (x : UInt8) (w : World) (hi : i < 254) (HX : Hid (powB 2 (i + 1) = x)) : Calls Tryd.prog 43 #[.int .i64 (i : Int)] w fun e w' => e = .returned (.int .u8 (x.toNat : Int)) ∧ w = w' := by
  have h1 := gfexp_any ((i : Int) + 1) w
  rw [show ((i : Int) + 1) = ((i + 1 : Nat) : Int) by omega, powZ_two (i + 1) (by omega), HX.out, show (((i + 1 : Nat)) : Int) = (i : Int) + 1 by omega] at h1
  have H1 := Lib.hid h1
  clear h1
  go_enter Tryd.func43, Tryd.ntmps43
  go_wp2_with fail
  refine H1.out.mono ?_
  rintro e w1 ⟨rfl, rfl⟩
  go_wp2_with fail
  go_ret
  exact ⟨rfl, rfl⟩
theorem poly_own (b : List UInt8) (n : Nat) (A : Option Addr) (c : Nat) (w : World) (HN : Hid (b.length = n)) (hr : Rd vB w A b) (hn : n ≤ 100000) :
    Calls Tryd.prog 22 #[.slice A n c] w (RetP w b.reverse) := by
  have e1 := HN.out
  subst e1
  go_enter Tryd.func22, Tryd.ntmps22
  go_wp2_with fail
  refine (clone_own b A c w hr (by omega)).mono ?_
  rintro e w1 ⟨v, rfl, ho, hb1⟩
  obtain ⟨A1, c1, rfl, hc1⟩ := own_form ho
  by_cases h0 : b.length = 0
  · have e0 : b = [] := List.eq_nil_of_length_eq_zero h0
    subst e0
    go_wp2_with fail
    refine (reverse_nil A1 c1 w1).mono ?_
    rintro e w2 ⟨⟨v2, rfl⟩, rfl⟩
    go_wp2_with fail
    go_ret
    exact ⟨_, rfl, ho, hb1⟩
  · obtain ⟨g, rfl, hg, _⟩ := cel_of_own ho rfl (by omega)
    obtain ⟨hcel, _, hle, hmax⟩ := celN_some ho rfl
    go_wp2_with fail
    refine (reverse_cel b b.length g c1 c1 w1 (Lib.hid rfl) hcel hc1 hn).mono ?_
    rintro e w2 ⟨⟨v2, rfl⟩, hcel2, ho2⟩
    have hown := hcel2.own (base := w.heap.size) hg (by rw [List.length_reverse]; exact hc1) hmax
    have hb2 := hb1.trans (ho2.below.mono hg)
    rw [List.length_reverse] at hown
    have HO := Lib.hid hown
    clear hown
    go_wp2_with fail
    go_ret
    exact ⟨_, rfl, by rw [List.length_reverse]; exact HO.out, hb2⟩
theorem poly_any (b : List UInt8) (n : Nat) (A : Option Addr) (c : Nat) (w : World) (HN : Hid (b.length = n)) (hr : Rd vB w A b) (hn : n ≤ 100000) :
    Calls Tryd.prog 22 #[.slice A n c] w (RetQ w b.reverse) := (poly_own b n A c w HN hr hn).mono fun _ _ h => h.any

/-! ### Gen -/
def GenI (n : Nat) (w : World) (g i : Value) (wr : World) : Prop :=
  ∃ (j : Nat) (A : Option Addr) (k c : Nat), j ≤ n ∧ i = .int .i64 (j : Int) ∧ g = .slice A k c ∧ Hid ((genL j).length = k) ∧ k ≤ c ∧ Rd vB wr A (genL j) ∧ Below w.heap.size w wr
set_option maxHeartbeats 2000000 in
theorem genS_ok (n : Nat) (w : World) (h1 : 1 ≤ n) (h2 : n ≤ 64) :
    Calls Tryd.prog 20 #[.int .i64 (n : Int)] w (RetSE w (genL n) 0) := by
  go_enter Tryd.func20, Tryd.ntmps20
  go_wp2_with fail
  refine (maybe_yes n _ h1 h2).mono ?_
  rintro e w1 ⟨rfl, rfl⟩
  go_wp2_with fail
  go_loopw [4, 11] (fun g i wr => GenI n w g i wr) (fun _ i _ => n - (intOf i).toNat)
  case atStart => exact ⟨0, some ⟨w.heap.size, 0, none⟩, 1, 1, Nat.zero_le _, rfl, rfl, rfl, Nat.le_refl _, Rd.new w [1] _ _ rfl, below_new (Below.refl _ _) _⟩
  case round =>
    obtain ⟨j, A, k, c, hj, rfl, rfl, HK, hc, hr, hb⟩ := hrel
    by_cases h : j < n
    · have j1 : (j : Int) < (n : Int) := by omega
      have HKJ : Hid (k ≤ 100) := by unfold Hid; rw [← HK.out, (gen_is j).1]; omega
      obtain ⟨x, hx⟩ : ∃ x, powB 2 (j + 1) = x := ⟨_, rfl⟩
      have hg : genL (j + 1) = plainL (mulL (genL j) [x, 1]) := by rw [← hx]; rfl
      obtain ⟨p', hp'⟩ : ∃ p', genL (j + 1) = p' := ⟨_, rfl⟩
      rw [hp'] at hg
      have HG := Lib.hid hg
      have HP' := Lib.hid hp'
      have HX := Lib.hid hx
      clear hx hg hp'
      generalize genL j = p at HK hr HG
      go_wp2_with fail
      refine (place_any j x _ (by omega) HX).mono ?_
      rintro e w1 ⟨rfl, rfl⟩
      go_wp2_with fail
      have hl : Rd vB (wr.alloc (.cells #[.int .u8 (x.toNat : Int), .int .u8 1] 5)) (some ⟨wr.heap.size, 0, none⟩) [x, 1] := Rd.new wr [x, 1] _ _ rfl
      refine (mulP_any p [x, 1] k 2 A _ c _ _ HK (Lib.hid rfl) (hr.keep (below_new (Below.refl _ _) _)) hl hc (Nat.le_refl _) (by have := HKJ.out; omega) (by omega)).mono ?_
      rintro e w2 ⟨A2, n2, c2, rfl, HN2, hc2, hr2, hb2⟩
      rw [← HG.out] at HN2 hr2
      have hB := below_step (below_new hb _) hb2
      clear hb hb2 hl hr HK HG
      go_wp2_with fail
      go_roundw
      case rel => exact ⟨j + 1, A2, n2, c2, h, by go_num, rfl, by rw [HP'.out]; exact HN2, hc2, by rw [HP'.out]; exact hr2, hB⟩
      case measure => simp [intOf] <;> omega
    · have j1 : ¬ (j : Int) < (n : Int) := by omega
      have ej : j = n := by omega
      subst ej
      go_wp2_with fail
      go_ret2
      exact ⟨A, k, c, rfl, HK, hc, hr, hb⟩
theorem genS_no (n : Int) (w : World) (h : n < 1 ∨ 64 < n) :
    Calls Tryd.prog 20 #[.int .i64 n] w (RetSE w [] 1) := by
  have HM := Lib.hid (maybe_no n w h)
  clear h
  go_enter Tryd.func20, Tryd.ntmps20
  go_wp2_with fail
  refine HM.out.mono ?_
  rintro e w1 ⟨rfl, rfl⟩
  go_wp2_with fail
  go_ret2
  exact ⟨none, 0, 0, rfl, Lib.hid rfl, Nat.le_refl _, Rd.nil, Below.refl _ _⟩

/-! ### Put -/
theorem putS_quo (d q r : List UInt8) (n : Nat) (h1 : 1 ≤ n) (hl : d.length + n ≤ 255) (hq : IsQuo (d ++ List.replicate n 0).reverse (genL n) q r) (hp : plainL r = r) :
    r.length ≤ n ∧ (d ++ List.replicate n 0).take (d.length + n - r.length) ++ r.reverse ++ (d ++ List.replicate n 0).drop (d.length + n - r.length + r.length) = putS d n := by
  obtain ⟨hG1, _, hG3⟩ := gen_is n
  have hrl : r.length ≤ n := by
    have := hq.2
    rw [hp] at this
    have := plain_len (genL n)
    omega
  refine ⟨hrl, ?_⟩
  have hz : (d ++ List.replicate n (0 : UInt8)).length = d.length + n := by rw [List.length_append, List.length_replicate]
  rw [Nat.sub_add_cancel (by omega), List.drop_of_length_le (by omega), List.append_nil, show d.length + n - r.length = d.length + (n - r.length) by omega, List.take_length_add_append, List.take_replicate, Nat.min_eq_left (by omega), List.append_assoc]
  refine putS_only d _ n h1 (by rw [List.length_append, List.length_replicate, List.length_reverse]; omega) hl (fun i i1 i2 => ?_)
  rw [val_append, List.length_append, List.length_replicate, List.length_reverse, Nat.sub_add_cancel hrl]
  have e1 : valB (List.replicate (n - r.length) 0 ++ r.reverse) (powB 2 i) = evalL r (powB 2 i) := by
    unfold valB
    rw [List.reverse_append, List.reverse_reverse, List.reverse_replicate]
    exact eval_congr (fun k => co_pad r _ k) _
  have e2 := eval_congr hq.1 (powB 2 i)
  rw [eval_add, eval_mul, hG3 i i1 i2, mul_zero, zero_add] at e2
  have e3 : evalL (d ++ List.replicate n 0).reverse (powB 2 i) = valB (d ++ List.replicate n 0) (powB 2 i) := rfl
  have e4 : valB (List.replicate n 0) (powB 2 i) = 0 := by
    unfold valB
    rw [List.reverse_replicate]
    exact eval_zeros n _
  rw [e3, val_append, e4, zero_add, List.length_replicate] at e2
  rw [e1, e2, add_self]
theorem gen_plain_ne (n : Nat) : plainL (genL n) ≠ [] := fun h => by
  have h1 := plain_eqv (genL n) n
  rw [h, (gen_is n).2.1, co_nil] at h1
  cases h1
/-- 'copy(d, s)' into a block whose first cells are bytes. -/
theorem wp_copy_cel {P : Program} {o : Oper} {a : Act} {w : World} {K : Act → World → Prop} {Q : Exit → Act → World → Prop} (d s : Operand) (dT sT : TypeId)
    (ho : o.op = .call { callee := .builtin .copy, args := #[d, s], argTypes := #[dT, sT] }) (elem : TypeId) (hu : P.underlying dT = some (.slice elem)) (hsz : (P.info? elem).map (·.size) = some 1)
    (g off dLen dCap : Nat) (A : Option Addr) (S : List UInt8) (sCap : Nat) (hd : a.eval d = .slice (some ⟨g, off, none⟩) dLen dCap) (hs : a.eval s = .slice A S.length sCap)
    (l : List UInt8) (t : TypeId) (hg : Cel w g t l) (hr : Rd vB w A S) (hle : S.length ≤ dLen) (hfit : off + S.length ≤ l.length)
    (h : ∀ w', Cel w' g t (l.take off ++ S ++ l.drop (off + S.length)) → Only g w w' → K (a.put o.dst (.int .i64 (S.length : Int))) w') : o.wp P a w K Q := by
  obtain ⟨L, h1, h2⟩ := hg
  have hlen : l.length ≤ L.length := by
    have := congrArg List.length h2
    rw [List.length_take, List.length_map] at this
    omega
  refine wp_copy_row d s dT sT ho elem hu hsz g off dLen dCap A S sCap hd hs L t h1 hr (fun _ => rfl) hle (by omega) ?_
  exact h _ ⟨_, h1.setRow _, cel_splice h2 off S hfit⟩ ((Only.refl g w).setRow _)
/-- 's[k:]' of a slice at the beginning of its block, whichever k. -/
theorem cut_some {P : Program} (t e : TypeId) (ht : P.underlying t = some (.slice e)) (hz : ∀ w, (sizeOf e).run P w = .ok 1 w) (g M m : Nat) (hm : m ≤ M) :
    ∃ off, (∀ w, (Instr.slice t (.slice (some ⟨g, 0, none⟩) M M) (some (.int .i64 ((M - m : Nat) : Int))) none none).run P w = .ok (.slice (some ⟨g, off, none⟩) m m) w) ∧ off + m ≤ M ∧ (off = M - m ∨ m = 0) := by
  by_cases h0 : m = 0
  · subst h0
    refine ⟨0, fun w => ?_, by omega, .inr rfl⟩
    have ht' : P.underlying t = some (.slice (P.elem t)) := by simp [Program.elem, ht]
    have he : P.elem t = e := by simp [Program.elem, ht]
    rw [run_slice_l w t (some ⟨g, 0, none⟩) M M ht' .i64 ((M - 0 : Nat) : Int) (by omega) (by omega), he, hz]
    simp [Result.andThen, sliced, Addr.add]
  · refine ⟨M - m, fun w => ?_, by omega, .inl rfl⟩
    have := run_cut_at (P := P) t e ht hz g 0 M M (M - m) (by omega) (Nat.le_refl _) (by omega) w
    rw [Nat.zero_add, show M - (M - m) = m by omega] at this
    exact this
set_option maxHeartbeats 2000000 in
theorem putS_ok (d : List UInt8) (len n : Nat) (A : Option Addr) (c : Nat) (w : World) (HN : Hid (d.length = len)) (hr : Rd vB w A d) (hc : len ≤ c) (h1 : 1 ≤ n) (h2 : n ≤ 64) (hl : len + n ≤ 255) :
    Calls Tryd.prog 13 #[.slice A len c, .int .i64 (n : Int)] w (RetSE w (putS d n) 0) := by
  obtain ⟨i0, hi, hz0, hz1, hz2⟩ := info_parts info_u8
  have e1 := HN.out
  subst e1
  have HM := Lib.hid (genS_ok n w h1 h2)
  have HNE := Lib.hid (gen_plain_ne n)
  have HG1 := Lib.hid (gen_is n).1
  have HP : Hid (∀ q r, IsQuo (d ++ List.replicate n 0).reverse (genL n) q r → plainL r = r → _) := fun q r a b => putS_quo d q r n h1 hl a b
  have HPL := Lib.hid (putS_length d n h1)
  obtain ⟨F, hF⟩ : ∃ F, putS d n = F := ⟨_, rfl⟩
  rw [hF] at HP HPL ⊢
  clear hF
  have j1 : ¬ (255 : Int) - (n : Int) < (d.length : Int) := by omega
  obtain ⟨M, hM⟩ : ∃ M : Nat, M = d.length + n := ⟨_, rfl⟩
  have m0 : (d.length : Int) + (n : Int) = (M : Int) := by omega
  rw [← hM] at HP HPL
  have hMd : d.length ≤ M := by omega
  have hM2 : M ≤ 255 := by omega
  have HMd : Hid (M - d.length = n) := by unfold Hid; omega
  have hnM : n ≤ M := by omega
  clear hM
  go_enter Tryd.func13, Tryd.ntmps13
  go_wp2_with fail
  refine HM.out.mono ?_
  rintro e w1 ⟨A1, n1, c1, rfl, HN1, hc1, hr1, hb1⟩
  have hn1 : n1 ≤ 100 := by rw [← HN1.out, HG1.out]; omega
  generalize genL n = G at HN1 hr1 HNE HP
  replace hr := hr.keep hb1
  clear HM HG1
  go_upto_region 7 with (at_make; refine wpList_make_full _ rfl _ _ 23 rfl w1.heap.size 5 i0 (.int .u8 0) 1 Tryd.underlying23 hi hz0 hz1 .i64 .i64 _ _ M rfl rfl rfl rfl (by rw [hz2]; omega) (by unfold maxLen; omega) (Nat.le_refl _) ?_; intro w0 hown0 hgrow0)
  rw [Nat.mul_one, show (Value.int .u8 0).cells = #[.int .u8 0] from rfl, toList_madeCells_one, zeros_map] at hown0
  obtain ⟨hc0, _, _⟩ := cel_some hown0 List.length_replicate
  have hB0 : Below w1.heap.size w1 w0 := (Below.refl _ _).grown hgrow0 (Nat.le_refl _) (by simp)
  have hr0 := hr.keep hB0
  have hr10 := hr1.keep hB0
  have hgw : w.heap.size ≤ w1.heap.size := hb1.size
  have hB := below_step hb1 hB0
  have hAG := hr1.apart (Nat.le_refl _)
  generalize hgd : w1.heap.size = g at hc0 hgw hAG ⊢
  clear hown0 hgrow0 hr hr1 m0 hgd
  go_upto_region 8 with (refine wpList_copy_cel rfl (.tmp 30) (.tmp 31) 23 23 rfl 5 Tryd.underlying23 (by kernel_rfl) g 0 M M A d c rfl rfl (List.replicate M 0) 5 hc0 hr0 hMd (by rw [List.length_replicate]; omega) ?_; intro w3 hc3 ho3)
  have e0 : (List.replicate M (0 : UInt8)).take 0 ++ d ++ (List.replicate M 0).drop (0 + d.length) = d ++ List.replicate n 0 := by
    rw [List.take_zero, List.nil_append, List.drop_replicate, Nat.zero_add, HMd.out]
  rw [e0] at hc3
  have HZL : Hid ((d ++ List.replicate n (0 : UInt8)).length = M) := by
    unfold Hid
    rw [List.length_append, List.length_replicate]
    have := HMd.out
    omega
  have hr13 := hr10.only ho3 hAG
  have hg3 : g < w3.heap.size := hc3.lt
  have hBB := hB.trans (ho3.below.mono hgw)
  generalize d ++ List.replicate n (0 : UInt8) = Z at hc3 HZL HP
  clear e0 hc0 hr0 hr10 hB ho3 hB0
  go_wp2_with fail
  refine (poly_any Z M (some ⟨g, 0, none⟩) M w3 HZL hc3.rd (by omega)).mono ?_
  rintro e w4 ⟨A4, n4, c4, rfl, HN4, hc4, hr4, hb4⟩
  have hn4 : n4 ≤ 255 := by rw [← HN4.out, List.length_reverse, HZL.out]; exact hM2
  have hcel4 := hc3.later hb4
  have hBB4 := below_step hBB hb4
  have hs4 := hb4.size
  generalize Z.reverse = Zr at HN4 hr4 HP
  go_wp2_with fail
  refine (quoP_good Zr G n4 n1 A4 A1 c4 c1 w4 HN4 HN1 hr4 (hr13.keep hb4) hc4 hc1 (by omega) (by omega) HNE).mono ?_
  rintro e w5 ⟨a, r, A5, B5, n5, m5, c5, d5, rfl, HA5, HR5, hn5, hm5, hra, hrr, hb5, HQ⟩
  obtain ⟨hrl, hfin⟩ := HP.out a r HQ.out.1 HQ.out.2.2
  rw [HR5.out] at hrl hfin
  have hcel5 := hcel4.later hb5
  have hBB5 := below_step hBB4 hb5
  have hs5 := hb5.size
  have hmM : m5 ≤ M := by omega
  obtain ⟨off, hcut, hoff1, hoff2⟩ := cut_some (P := Tryd.prog) 23 5 Tryd.underlying23 size_uint8 g M m5 hmM
  have mk : (M : Int) - (m5 : Int) = ((M - m5 : Nat) : Int) := by omega
  have mw : IntKind.i64.wrap ((M : Int) - (m5 : Int)) = (M : Int) - (m5 : Int) := by rw [IntKind.wrap_i64]; omega
  rw [← mk] at hcut
  have HF : Hid (Z.take off ++ r.reverse ++ Z.drop (off + r.reverse.length) = F) := by
    unfold Hid
    rw [List.length_reverse, HR5.out]
    rcases hoff2 with e | e
    · rw [e]; exact hfin
    · have er : r = [] := List.eq_nil_of_length_eq_zero (by rw [HR5.out, e])
      rw [er, e] at hfin ⊢
      simp only [List.reverse_nil, List.append_nil, Nat.add_zero, List.take_append_drop] at hfin ⊢
      exact hfin
  have HCUT := Lib.hid hcut
  have HMK := Lib.hid mk
  have HRR : Hid (r.reverse.length = m5) := by unfold Hid; rw [List.length_reverse, HR5.out]
  have hbase5 : Below g w5 w5.drew := (Below.refl _ _).drew
  clear hcut mk hfin hoff2 HQ hra HA5 hcel4 hc3 hr4 HP HNE HN4 HN1 hr13 hb5 hb4 hBB4 hBB hc1 hc4 hn1 hn4 hrl hn5
  go_upto_region 9 with fail
  refine wp_region_plan_at g (.step 0 false (.step 1 false (.step 2 false (.step 3 false (.step 4 false (.step 5 false (.step 6 false (.step 7 false (.step 8 true (.step 9 true (.nil))))))))))) (by kernel_rfl) (by kernel_rfl) (by rfl) (by kernel_rfl) ?_
  have hBase := hbase5
  have hcutW := HCUT.out
  iterate 8 (refine plan_read rfl (by rfl) (v := ?_) ?_ ?_; rotate_left 1; (intro W hW; have hW0 := Below.trans hBase hW; (try dsimp only at hW); go_simp <;> with_reducible rfl); simp only [List.getElem_toArray, List.getElem_cons_zero, List.getElem_cons_succ, Act.put, List.setIfInBounds_toArray, List.set_cons_zero, List.set_cons_succ])
  (refine plan_make_at rfl (by rfl) (fun K hK => ?_); go_simp; refine (poly_any r m5 B5 d5 _ HR5 (hrr.keep (Below.refl _ w5).drew) (by omega)).mono ?_; rintro e w6 ⟨A6, n6, c6, rfl, HN6, hc6, hr6, hb6⟩; have hz6 : w5.heap.size ≤ w6.heap.size := hb6.size; refine hK.out _ _ (hb6.mono (by change g ≤ w5.heap.size; omega)) ?_; clear hK K; replace hBase := hBase.trans (hb6.mono (by change g ≤ w5.heap.size; omega)))
  have hcel6 := hcel5.drew.later hb6
  have hBB6 := below_step hBB5.drew hb6
  generalize r.reverse = T at HN6 hr6 HF HRR
  have e6 := HN6.out
  subst e6
  have hTm : T.length ≤ m5 := Nat.le_of_eq HRR.out
  have hfit : off + T.length ≤ Z.length := by rw [HZL.out, HRR.out]; exact hoff1
  (refine plan_make_at rfl (by rfl) (fun K hK => ?_); refine wp_copy_cel (.tmp 47) (.tmp 49) 23 23 rfl 5 Tryd.underlying23 (by kernel_rfl) g off m5 m5 A6 T c6 rfl rfl Z 5 hcel6 hr6 hTm hfit ?_; intro w7 hc7 ho7; refine hK.out _ _ ho7.below ?_; clear hK K)
  refine plan_done ?_
  rw [HF.out] at hc7
  have hrF := hc7.rd
  have hBF := hBB6.trans (ho7.below.mono hgw)
  clear hcel6 hcel5 hc7 ho7 hBase
  go_wp2_with fail
  go_ret2
  exact ⟨_, M, M, rfl, HPL.out, Nat.le_refl _, hrF, hBF⟩
theorem putS_no (d : List UInt8) (len : Nat) (n : Int) (A : Option Addr) (c : Nat) (w : World) (HN : Hid (d.length = len)) (hr : Rd vB w A d) (hc : len ≤ c) (hl : len ≤ 100000) (h : n < 1 ∨ 64 < n) :
    Calls Tryd.prog 13 #[.slice A len c, .int .i64 n] w (RetSE w [] 1) := by
  have HM := Lib.hid (genS_no n w h)
  clear h
  go_enter Tryd.func13, Tryd.ntmps13
  go_wp2_with fail
  refine HM.out.mono ?_
  rintro e w1 ⟨A1, n1, c1, rfl, HN1, hc1, hr1, hb1⟩
  go_wp2_with fail
  go_ret2
  exact ⟨none, 0, 0, rfl, Lib.hid rfl, Nat.le_refl _, Rd.nil, hb1⟩
theorem putS_long (d : List UInt8) (len n : Nat) (A : Option Addr) (c : Nat) (w : World) (HN : Hid (d.length = len)) (hr : Rd vB w A d) (hc : len ≤ c) (h1 : 1 ≤ n) (h2 : n ≤ 64) (hl : 255 < len + n) (hl2 : len ≤ 100000) :
    Calls Tryd.prog 13 #[.slice A len c, .int .i64 (n : Int)] w (RetSE w [] 4) := by
  have HM := Lib.hid (genS_ok n w h1 h2)
  have j1 : (255 : Int) - (n : Int) < (len : Int) := by omega
  go_enter Tryd.func13, Tryd.ntmps13
  go_wp2_with fail
  refine HM.out.mono ?_
  rintro e w1 ⟨A1, n1, c1, rfl, HN1, hc1, hr1, hb1⟩
  go_wp2_with fail
  go_ret2
  exact ⟨none, 0, 0, rfl, Lib.hid rfl, Nat.le_refl _, Rd.nil, hb1⟩

/-! ### Signs, Fine -/
def SigRel (b : List UInt8) (n g : Nat) (w : World) (i : Value) (wr : World) : Prop :=
  ∃ (k : Nat) (T : List UInt8), k ≤ n ∧ i = .int .i64 (k : Int) ∧ T.length = n ∧ (∀ j, j < k → co T j = sigF b j) ∧ Cel wr g 5 T ∧ Below w.heap.size w wr
set_option maxHeartbeats 2000000 in
theorem signsS_ok (b : List UInt8) (len n : Nat) (A : Option Addr) (c : Nat) (w : World) (HN : Hid (b.length = len)) (hr : Rd vB w A b) (hc : len ≤ c) (h1 : 1 ≤ n) (h2 : n ≤ 64) (h3 : n ≤ len) (h4 : len ≤ 255) :
    Calls Tryd.prog 24 #[.slice A len c, .int .i64 (n : Int)] w (RetSE w (signsL b n) 0) := by
  obtain ⟨i0, hi, hz0, hz1, hz2⟩ := info_parts info_u8
  have HM := Lib.hid (maybe_yes n w h1 h2)
  have j1 : ¬ (len : Int) < (n : Int) := by omega
  have j2 : ¬ (255 : Int) < (len : Int) := by omega
  go_enter Tryd.func24, Tryd.ntmps24
  go_wp2_with fail
  refine HM.out.mono ?_
  rintro e w1 ⟨rfl, rfl⟩
  go_wp2_with fail
  refine (poly_any b len A c w HN hr (by omega)).mono ?_
  rintro e w2 ⟨A2, n2, c2, rfl, HN2, hc2, hr2, hb2⟩
  have hn2 : n2 ≤ 255 := by rw [← HN2.out, List.length_reverse, HN.out]; exact h4
  have hgw := hb2.size
  clear j1 j2 HM
  go_upto_region 9 with (at_make; refine wpList_make_full _ rfl _ _ 23 rfl w2.heap.size 5 i0 (.int .u8 0) 1 Tryd.underlying23 hi hz0 hz1 .i64 .i64 _ _ n rfl rfl rfl rfl (by rw [hz2]; omega) (by unfold maxLen; omega) (Nat.le_refl _) ?_; intro w0 hown0 hgrow0)
  rw [Nat.mul_one, show (Value.int .u8 0).cells = #[.int .u8 0] from rfl, toList_madeCells_one, zeros_map] at hown0
  obtain ⟨hc0, _, _⟩ := cel_some hown0 List.length_replicate
  have hB0 : Below w2.heap.size w2 w0 := (Below.refl _ _).grown hgrow0 (Nat.le_refl _) (by simp)
  generalize hgd : w2.heap.size = g at hc0 ⊢
  have hgl : w2.heap.size ≤ g := Nat.le_of_eq hgd
  clear hown0 hgrow0
  go_wp2_with fail
  go_loopw [28] (fun i wr => SigRel b n g w2 i wr) (fun i _ => n - (intOf i).toNat)
  case atStart => exact ⟨0, List.replicate n 0, Nat.zero_le _, rfl, List.length_replicate, fun j hj => absurd hj (Nat.not_lt_zero j), hc0, hB0⟩
  case round =>
    clear hc0 hB0
    obtain ⟨k, T, hk, rfl, hT, hS, hcel, hB⟩ := hrel
    by_cases h : k < n
    · have k1 : (k : Int) < (n : Int) := by omega
      have k0 : (0 : Int) ≤ (k : Int) := by omega
      obtain ⟨x, hx⟩ : ∃ x, powB 2 (k + 1) = x := ⟨_, rfl⟩
      have HX := Lib.hid hx
      obtain ⟨y, hy⟩ : ∃ y, sigF b k = y := ⟨_, rfl⟩
      have HE : Hid (evalL b.reverse x = y) := by rw [← hx, ← hy]; rfl
      have hEv := fun W (hW : Below w2.heap.size w2 W) => evalP_any b.reverse x n2 A2 c2 W HN2 (hr2.keep hW) hc2 (by omega)
      rw [HE.out] at hEv
      have HEv := Lib.hid hEv
      have HS : Hid (∀ W, Cel W g 5 (T.set k y) → Below w2.heap.size w2 W → SigRel b n g w2 (.int .i64 ((k : Int) + 1)) W) := fun W h1 h2 =>
        ⟨k + 1, T.set k y, h, by go_num, by rw [List.length_set]; exact hT, fun j hj => by
          rw [co_set _ _ _ _ (by omega)]
          split
          · next e => rw [e, hy]
          · exact hS j (by omega), h1, h2⟩
      have hkT : k < T.length := by omega
      clear hEv hx hy hS
      go_wp2_with fail
      refine (place_any k x _ (by omega) HX).mono ?_
      rintro e w3 ⟨rfl, rfl⟩
      go_wp2_with fail
      refine (HEv.out _ hB).mono ?_
      rintro e w4 ⟨rfl, hb4⟩
      have hcel4 := hcel.later hb4
      have hB4 := below_step hB hb4
      have hc4 := hcel4.get k hkT
      have hf4 := hcel4.frozen k
      have HR := Lib.hid (HS.out _ (hcel4.set k y) (hB4.setCell (p := ⟨g, k, none⟩) hgl (.int .u8 (y.toNat : Int))))
      clear hcel hB hcel4 hB4 hb4
      go_wp2_with fail
      go_roundw
      case rel => exact HR.out
      case measure => simp [intOf] <;> omega
    · have ek : k = n := by omega
      subst ek
      have j1 : ¬ (k : Int) < (k : Int) := by omega
      have HT : Hid (T = signsL b k) := by
        rw [← signs_tab]
        refine co_ext (by rw [hT, signs_tab, signs_length]) (fun j hj => ?_)
        rw [hT] at hj
        rw [hS j hj, signs_tab, co_lt _ j (by rw [signs_length]; exact hj)]
        simp [signsL, sigF]
      have hBw := below_step hb2 hB
      have hrT := hcel.rd
      rw [HT.out] at hrT hT
      have HTL := Lib.hid hT
      clear hT hS hcel hB
      go_wp2_with fail
      go_ret2
      exact ⟨_, k, k, rfl, HTL, Nat.le_refl _, hrT, hBw⟩
theorem signsS_no (b : List UInt8) (len : Nat) (n : Int) (A : Option Addr) (c : Nat) (w : World) (HN : Hid (b.length = len)) (hr : Rd vB w A b) (hc : len ≤ c) (hl : len ≤ 100000) (h : Hid (errS len n ≠ 0)) :
    Calls Tryd.prog 24 #[.slice A len c, .int .i64 n] w (RetSE w [] (errS len n)) := by
  have hE := h.out
  unfold errS at hE ⊢
  by_cases h1 : n < 1 ∨ 64 < n
  · rw [if_pos h1]
    have HM := Lib.hid (maybe_no n w h1)
    clear hE h1 h
    go_enter Tryd.func24, Tryd.ntmps24
    go_wp2_with fail
    refine HM.out.mono ?_
    rintro e w1 ⟨rfl, rfl⟩
    go_wp2_with fail
    go_ret2
    exact ⟨none, 0, 0, rfl, Lib.hid rfl, Nat.le_refl _, Rd.nil, Below.refl _ _⟩
  · rw [if_neg h1] at hE ⊢
    obtain ⟨m, rfl⟩ : ∃ m : Nat, n = (m : Int) := ⟨n.toNat, by omega⟩
    have HM := Lib.hid (maybe_yes m w (by omega) (by omega))
    by_cases h2 : (len : Int) < (m : Int)
    · rw [if_pos h2]
      clear hE h1 h
      go_enter Tryd.func24, Tryd.ntmps24
      go_wp2_with fail
      refine HM.out.mono ?_
      rintro e w1 ⟨rfl, rfl⟩
      go_wp2_with fail
      go_ret2
      exact ⟨none, 0, 0, rfl, Lib.hid rfl, Nat.le_refl _, Rd.nil, Below.refl _ _⟩
    · rw [if_neg h2] at hE ⊢
      by_cases h4 : 255 < len
      · rw [if_pos h4]
        have j4 : (255 : Int) < (len : Int) := by omega
        clear hE h1 h
        go_enter Tryd.func24, Tryd.ntmps24
        go_wp2_with fail
        refine HM.out.mono ?_
        rintro e w1 ⟨rfl, rfl⟩
        go_wp2_with fail
        go_ret2
        exact ⟨none, 0, 0, rfl, Lib.hid rfl, Nat.le_refl _, Rd.nil, Below.refl _ _⟩
      · rw [if_neg h4] at hE
        exact absurd rfl hE
theorem all_zero_eq (n : Nat) : ∀ l : List UInt8, l.length = n → decide (l = List.replicate n 0) = l.all (· == 0) := fun l hl => by
  rw [Bool.eq_iff_iff, decide_eq_true_eq, List.all_eq_true]
  constructor
  · rintro rfl x hx
    rw [(List.mem_replicate.1 hx).2]
    rfl
  · intro h
    exact List.eq_replicate_iff.2 ⟨hl, fun x hx => by simpa using h x hx⟩
theorem fineS_any (b : List UInt8) (len : Nat) (n : Int) (A : Option Addr) (c : Nat) (w : World) (HN : Hid (b.length = len)) (hr : Rd vB w A b) (hc : len ≤ c) (hl : len ≤ 100000) :
    Calls Tryd.prog 29 #[.slice A len c, .int .i64 n] w fun e w' => e = .returned (.bool (fineS b n)) ∧ Below w.heap.size w w' := by
  by_cases h0 : errS len n = 0
  · obtain ⟨m, rfl, h1, h2, h3, h4⟩ := errS_cases len n h0
    have HF : Hid (fineS b (m : Int) = decide (signsL b m = List.replicate m 0)) := by
      unfold Hid fineS
      rw [HN.out, h0, all_zero_eq m _ (signs_length b m)]
      rfl
    have HM := Lib.hid (signsS_ok b len m A c w HN hr hc h1 h2 h3 h4)
    rw [HF.out]
    clear h0
    go_enter Tryd.func29, Tryd.ntmps29
    go_wp2_with fail
    refine HM.out.mono ?_
    rintro e w1 ⟨A1, n1, c1, rfl, HN1, hc1, hr1, hb1⟩
    obtain ⟨i0, hi, hz0, hz1, hz2⟩ := info_parts info_u8
    have hmk := run_makeSlice (P := Tryd.prog) (w := w1) 23 5 i0 (.int .u8 0) Tryd.underlying23 hi hz0 .i64 .i64 (m : Int) (m : Int) (by omega) (Int.le_refl _) (by rw [hz1]; omega) (by rw [hz2]; omega) (by omega)
    rw [hz1, Int.toNat_natCast, Nat.mul_one] at hmk
    have hZ : madeCells (Value.int .u8 0).cells m = ((List.replicate m (0 : UInt8)).map vB).toArray := by
      apply Array.toList_inj.1
      rw [show (Value.int .u8 0).cells = #[.int .u8 0] from rfl, toList_madeCells_one, zeros_map]
    rw [hZ] at hmk
    have hrz := Rd.new (f := vB) w1 (List.replicate m (0 : UInt8)) _ 5 rfl
    have hB1 := below_new (Below.refl _ w1) (.cells ((List.replicate m (0 : UInt8)).map vB).toArray 5)
    have hr1' := hr1.keep hB1
    have hBB := below_step hb1 hB1
    have HZL : Hid ((List.replicate m (0 : UInt8)).length = m) := List.length_replicate
    generalize hZe : List.replicate m (0 : UInt8) = Z at hmk hrz hB1 hr1' hBB HZL ⊢
    have HZE := Lib.hid hZe
    have HRZ := Lib.hid hrz
    have HR1 := Lib.hid hr1'
    have HBB := Lib.hid hBB
    clear hrz hr1' hBB hB1 hZ hZe
    go_wp2_with fail
    refine (equal_any (signsL b m) Z n1 m A1 _ c1 m _ HN1 HZL HR1.out HRZ.out).mono ?_
    rintro e w2 ⟨rfl, rfl⟩
    obtain ⟨r, hr0⟩ : ∃ r, decide (signsL b m = Z) = r := ⟨_, rfl⟩
    have HD := Lib.hid hr0
    rw [hr0]
    clear hr0
    go_wp2_with fail
    go_ret
    exact ⟨by rw [HZE.out, HD.out]; rfl, HBB.out⟩
  · have HM := Lib.hid (signsS_no b len n A c w HN hr hc hl (Lib.hid h0))
    have HF : Hid (fineS b n = false) := by
      unfold Hid fineS
      rw [HN.out, decide_eq_false h0]
      rfl
    rw [HF.out]
    generalize errS len n = k at HM h0
    have hk : (k == 0) = false := beq_eq_false_iff_ne.2 h0
    clear h0
    go_enter Tryd.func29, Tryd.ntmps29
    go_wp2_with fail
    refine HM.out.mono ?_
    rintro e w1 ⟨A1, n1, c1, rfl, HN1, hc1, hr1, hb1⟩
    go_wp2_with fail
    go_ret
    exact ⟨rfl, hb1⟩
end Go.Proofs.YteppocjgodmpdaaDoor
/-
  What the program's calls of layer 10 answer, over the landed code. No conditions but those typed.
-/
namespace Go.Proofs.YteppocjgodmpdaaDoor
set_option maxRecDepth 100000
open Go.RowKit
set_option linter.unusedSimpArgs false
set_option linter.unusedVariables false

/-! ### Most -/
def mostN (n : Int) : Int := if n < 1 ∨ 64 < n then 0 else n / 2
theorem mostM_any (n : Int) (w : World) : Calls Tryd.prog 53 #[.int .i64 n] w fun e w' => e = .returned (.int .i64 (mostN n)) ∧ w = w' := by
  by_cases h1 : n < 1
  · have HE : Hid (mostN n = 0) := if_pos (.inl h1)
    rw [HE.out]
    go_enter Tryd.func53, Tryd.ntmps53
    go_wp2_with fail
    go_ret
    exact ⟨rfl, rfl⟩
  · by_cases h2 : 64 < n
    · have HE : Hid (mostN n = 0) := if_pos (.inr h2)
      rw [HE.out]
      go_enter Tryd.func53, Tryd.ntmps53
      go_wp2_with fail
      go_ret
      exact ⟨rfl, rfl⟩
    · obtain ⟨m, rfl⟩ : ∃ m : Nat, n = (m : Int) := ⟨n.toNat, by omega⟩
      have HE : Hid (mostN (m : Int) = ((m / 2 : Nat) : Int)) := by
        unfold Hid mostN
        rw [if_neg (by omega)]
        omega
      have e1 : (m : Int).tdiv 2 = ((m / 2 : Nat) : Int) := by rw [Int.tdiv_eq_ediv_of_nonneg (by omega)]; omega
      have e2 : IntKind.i64.wrap ((m / 2 : Nat) : Int) = ((m / 2 : Nat) : Int) := by rw [IntKind.wrap_i64]; omega
      rw [HE.out]
      go_enter Tryd.func53, Tryd.ntmps53
      go_wp2_with fail
      go_ret
      exact ⟨rfl, rfl⟩

/-! ### solve -/
def lenV : Value → Nat
  | .slice _ n _ => n
  | _ => 0
theorem quo_pl {p q a r : List UInt8} (h : IsQuo p q a r) (hl : pl q < pl p) : pl a + pl q ≤ pl p + 1 := by
  have hr : pl r < pl q := h.2
  by_cases h0 : pl a = 0
  · omega
  · have e1 : pl (mulL a q) = pl a + pl q - 1 := pl_mul_eq a q (by omega) (by omega)
    have e2 : Eqv (mulL a q) (addL p r) := fun k => by
      have := h.1 k
      rw [co_add] at this
      rw [co_add, ← this, add_assoc, add_self, add_zero]
    have e3 := pl_add p r
    rw [pl_congr e2] at e1
    omega
/-- A polynomial that may be read. -/
def HasP (w : World) (v : Value) (l : List UInt8) : Prop := ∃ A n c, v = .slice A n c ∧ Hid (l.length = n) ∧ n ≤ c ∧ n ≤ 100 ∧ Rd vB w A l
theorem HasP.keep {w w' : World} {v : Value} {l : List UInt8} (h : HasP w v l) (hb : Below w.heap.size w w') : HasP w' v l := by
  obtain ⟨A, n, c, e, h1, h2, h3, h4⟩ := h
  exact ⟨A, n, c, e, h1, h2, h3, h4.keep hb⟩
def SolveR (S : List UInt8) (n : Nat) (w : World) (a l fa f : Value) (wr : World) : Prop :=
  ∃ (ah le fA fi : List UInt8), HasP wr a ah ∧ HasP wr l le ∧ HasP wr fa fA ∧ HasP wr f fi ∧ Below w.heap.size w wr ∧ Hid (Euc n S ah le fA fi)
def RetSolve (S : List UInt8) (n : Nat) (w : World) (e : Ending) (w' : World) : Prop :=
  ∃ (vf vl : Value) (ah le fA fi : List UInt8), e = .returned (.tuple #[vf, vl]) ∧ HasP w' vf fi ∧ HasP w' vl le ∧ Below w.heap.size w w' ∧ Hid (Euc n S ah le fA fi ∧ pl le ≤ n - n / 2)
set_option maxHeartbeats 2000000 in
theorem solveM_any (S : List UInt8) (n : Nat) (A : Option Addr) (c : Nat) (w : World) (HN : Hid (S.length = n)) (hr : Rd vB w A S) (hc : n ≤ c) (h1 : 1 ≤ n) (h2 : n ≤ 64) :
    Calls Tryd.prog 25 #[.slice A n c] w (RetSolve S n w) := by
  obtain ⟨i0, hi, hz0, hz1, hz2⟩ := info_parts info_u8
  have HM : ∀ W, Calls Tryd.prog 53 #[.int .i64 (n : Int)] W fun e w' => e = .returned (.int .i64 ((n / 2 : Nat) : Int)) ∧ W = w' := fun W => by
    have := mostM_any (n : Int) W
    unfold mostN at this
    rw [if_neg (by omega), show (n : Int) / 2 = ((n / 2 : Nat) : Int) by omega] at this
    exact this
  have HMost := Lib.hid HM
  clear HM
  have HST := Lib.hid (euc_start n S HN.out)
  go_enter Tryd.func25, Tryd.ntmps25
  go_upto_region 3 with (first
    | (at_make; refine wpList_make_full _ rfl _ _ 23 rfl w.heap.size 5 i0 (.int .u8 0) 1 Tryd.underlying23 hi hz0 hz1 .i64 .i64 _ _ n rfl rfl rfl rfl (by rw [hz2]; omega) (by unfold maxLen; omega) (Nat.le_refl _) ?_; intro w0 hown0 hgrow0)
    | (at_builtin; refine wpList_append_rd (f := vB) _ rfl (.tmp 15) (.tmp 16) 23 rfl w.heap.size 5 i0 (.int .u8 0) 1 Tryd.underlying23 hi hz0 hz1 hz2 rfl _ _ _ rfl (ownsRow_later hown0 (below_new (Below.refl _ w0) _)) _ ([1] : List UInt8) 1 rfl (Rd.new w0 [1] _ _ rfl) vB_one (by unfold maxLen; simp; omega) (by simp; omega) (by simp only [World.size_alloc]; have := hgrow0.size; simp at this ⊢; omega) ?_; intro v4 w4 hown4 hgrow4))
  rw [Nat.mul_one, show (Value.int .u8 0).cells = #[.int .u8 0] from rfl, toList_madeCells_one, zeros_map, ← List.map_append] at hown4
  have hB0 : Below w.heap.size w w0 := (Below.refl _ _).grown hgrow0 (Nat.le_refl _) (by simp)
  have hB4 : Below w.heap.size w w4 := (below_new hB0 _).grown hgrow4 (by have := hB0.size; simp; omega) (fun k hk => (hown0.lt k hk).1)
  have hXL : (List.replicate n (0 : UInt8) ++ [1]).length = n + ([1] : List UInt8).length := by simp
  rw [← hXL] at hown4
  obtain ⟨A4, c4, rfl, hc4, hr4⟩ := own_slice hown4
  rw [hXL] at hc4 ⊢
  simp only [List.length_cons, List.length_nil, Nat.zero_add] at hc4 ⊢
  replace hr := hr.keep hB4
  have HAh : HasP w4 (.slice A4 (n + 1) c4) (xN n) := ⟨A4, n + 1, c4, rfl, by unfold Hid; exact xN_length n, hc4, by omega, hr4⟩
  have HLe : HasP w4 (.slice A n c) S := ⟨A, n, c, rfl, HN, hc, by omega, hr⟩
  have hb1 := below_new (Below.refl _ w4) (.cells #[] 5)
  have hb2 := below_new hb1 (.cells #[.int .u8 1] 5)
  have HFa : HasP (w4.alloc (.cells #[] 5)) (.slice (some ⟨w4.heap.size, 0, none⟩) 0 0) [] := ⟨_, 0, 0, rfl, Lib.hid rfl, Nat.le_refl _, by omega, Rd.nil⟩
  have HFi : HasP ((w4.alloc (.cells #[] 5)).alloc (.cells #[.int .u8 1] 5)) (.slice (some ⟨(w4.alloc (.cells #[] 5)).heap.size, 0, none⟩) 1 1) [1] := ⟨_, 1, 1, rfl, Lib.hid rfl, Nat.le_refl _, by omega, Rd.new _ [1] _ _ rfl⟩
  have HREL : Hid (SolveR S n w (.slice A4 (n + 1) c4) (.slice A n c) (.slice (some ⟨w4.heap.size, 0, none⟩) 0 0) (.slice (some ⟨(w4.alloc (.cells #[] 5)).heap.size, 0, none⟩) 1 1) ((w4.alloc (.cells #[] 5)).alloc (.cells #[.int .u8 1] 5))) :=
    ⟨xN n, S, [], [1], HAh.keep hb2, HLe.keep hb2, HFa.keep (below_new (Below.refl _ _) _), HFi, below_step hB4 hb2, HST⟩
  rw [show (w4.alloc (.cells #[] 5)).heap.size = w4.heap.size + 1 by simp] at HREL
  clear HAh HLe HFa HFi hb1 hb2 hr4 hown4 hgrow4 hB4 hB0 hown0 hgrow0 hXL hr HST
  go_wp2_with fail
  go_loopw [5, 6, 7, 8] (fun a l fa f wr => SolveR S n w a l fa f wr) (fun _ l _ _ _ => lenV l)
  case atStart => exact HREL.out
  case round =>
    clear HREL
    obtain ⟨ah, le, fA, fi, ⟨A1, n1, d1, rfl, HN1, hd1, hm1, hr1⟩, ⟨A2, n2, d2, rfl, HN2, hd2, hm2, hr2⟩, ⟨A3, n3, d3, rfl, HN3, hd3, hm3, hr3⟩, ⟨A5, n5, d5, rfl, HN5, hd5, hm5, hr5⟩, hB, HE⟩ := hrel
    go_wp2_with fail
    refine (degP_any le n2 A2 d2 _ HN2 hr2 hd2 (by omega)).mono ?_
    rintro e w1 ⟨rfl, hb⟩
    replace hB := below_step hB hb
    replace hr1 := hr1.keep hb
    replace hr2 := hr2.keep hb
    replace hr3 := hr3.keep hb
    replace hr5 := hr5.keep hb
    clear hb
    go_wp2_with fail
    refine (HMost.out _).mono ?_
    rintro e w2 ⟨rfl, rfl⟩
    obtain ⟨L, hL⟩ : ∃ L, (plainL le).length = L := ⟨_, rfl⟩
    have hpl : pl le = L := hL
    have hL2 : L ≤ n2 := by rw [← hL, ← HN2.out]; exact plain_len le
    obtain ⟨M, hM⟩ : ∃ M, n / 2 = M := ⟨_, rfl⟩
    have hM2 : M ≤ n := by omega
    rw [hL, hM]
    have HD : Hid (n - n / 2 = n - M) := by unfold Hid; rw [hM]
    have HL := Lib.hid hpl
    clear hM hL hpl
    by_cases hgo : n - M < L
    · have j1 : (n : Int) - (M : Int) ≤ (L : Int) - 1 := by omega
      have HQ : Hid (plainL le ≠ []) := fun h0 => by
        have := HL.out
        unfold pl at this
        rw [h0] at this
        simp at this
        omega
      go_wp2_with fail
      refine (quoP_good ah le n1 n2 A1 A2 d1 d2 _ HN1 HN2 hr1 hr2 hd1 hd2 (by omega) (by omega) HQ).mono ?_
      rintro e w3 ⟨qa, rr, B1, B2, k1, k2, q1, q2, rfl, HK1, HK2, hq1, hq2, hra, hrr, hb3, HQQ⟩
      replace hB := below_step hB hb3
      replace hr1 := hr1.keep hb3
      replace hr2 := hr2.keep hb3
      replace hr3 := hr3.keep hb3
      replace hr5 := hr5.keep hb3
      have hk1 : k1 ≤ 100 := by
        have h1 := quo_pl HQQ.out.1 HE.out.less
        have h2 := HE.out.deg
        have h3 : pl qa = k1 := by unfold pl; rw [HQQ.out.2.1]; exact HK1.out
        omega
      have hk2 : k2 < n2 := by
        have h1 : pl rr < pl le := HQQ.out.1.2
        have h3 : pl rr = k2 := by unfold pl; rw [HQQ.out.2.2]; exact HK2.out
        have h4 := HL.out
        omega
      clear hb3
      go_wp2_with fail
      refine (mulP_any qa fi k1 n5 B1 A5 q1 d5 _ HK1 HN5 hra hr5 hq1 hd5 (by omega) (by omega)).mono ?_
      rintro e w4 ⟨A6, n6, d6, rfl, HN6, hd6, hr6, hb4⟩
      have hn6 : n6 ≤ 1000 := by
        have h1 := plain_len (mulL qa fi)
        have h2 : pl (mulL qa fi) ≤ pl qa + pl fi - 1 := pl_mul qa fi
        have h3 := pl_len qa
        have h4 := pl_len fi
        have h5 := HK1.out
        have h6 := HN5.out
        have h7 : pl (mulL qa fi) = n6 := HN6.out
        omega
      replace hB := below_step hB hb4
      replace hr2 := hr2.keep hb4
      replace hr3 := hr3.keep hb4
      replace hr5 := hr5.keep hb4
      replace hrr := hrr.keep hb4
      clear hb4
      go_wp2_with fail
      refine (addP_any fA (plainL (mulL qa fi)) n3 n6 A3 A6 d3 d6 _ HN3 HN6 hr3 hr6 hd3 hd6 (by omega) (by omega)).mono ?_
      rintro e w5 ⟨A7, n7, d7, rfl, HN7, hd7, hr7, hb5⟩
      have hf : Eqv (plainL (addL fA (plainL (mulL qa fi)))) (addL fA (mulL qa fi)) := (plain_eqv _).trans (add_congr (Eqv.refl _) (plain_eqv _))
      have HE2 := Lib.hid (HE.out.step HQQ.out.1 (by have := HL.out; have := HD.out; omega) hf)
      have hn7 : n7 ≤ 100 := by
        have h1 := HE2.out.deg
        have h2 : pl (plainL (addL fA (plainL (mulL qa fi)))) = n7 := by unfold pl; rw [plain_plain]; exact HN7.out
        omega
      have HREL2 : Hid (SolveR S n w (.slice A2 n2 d2) (.slice B2 k2 q2) (.slice A5 n5 d5) (.slice A7 n7 d7) w5) :=
        ⟨le, rr, fi, plainL (addL fA (plainL (mulL qa fi))), ⟨A2, n2, d2, rfl, HN2, hd2, hm2, hr2.keep hb5⟩, ⟨B2, k2, q2, rfl, HK2, hq2, by omega, hrr.keep hb5⟩, ⟨A5, n5, d5, rfl, HN5, hd5, hm5, hr5.keep hb5⟩, ⟨A7, n7, d7, rfl, HN7, hd7, hn7, hr7⟩, below_step hB hb5, HE2⟩
      clear hB hr2 hr3 hr5 hr1 hrr hra hr6 hr7 HE HE2 HQQ hf hb5
      go_wp2_with fail
      go_roundw
      case rel => exact HREL2.out
      case measure => simp [lenV] <;> omega
    · have j1 : ¬ (n : Int) - (M : Int) ≤ (L : Int) - 1 := by omega
      go_wp2_with fail
      go_ret2
      exact ⟨_, _, ah, le, fA, fi, rfl, ⟨A5, n5, d5, rfl, HN5, hd5, hm5, hr5⟩, ⟨A2, n2, d2, rfl, HN2, hd2, hm2, hr2⟩, hB, HE.out, by rw [HL.out, HD.out]; omega⟩

/-! ### amiss -/
theorem powZ_neg (p : Nat) (hp : p < 255) : powZ 2 (-(p : Int)) = rootB p := by
  unfold powZ
  rw [if_neg (by decide)]
  refine inv_unique _ _ ?_
  rw [← pow_add]
  by_cases h : p = 0
  · subst h
    rfl
  · have : ((-(p : Int)) % 255).toNat = 255 - p := by omega
    rw [this, show p + (255 - p) = 255 by omega, exp_255]
set_option maxHeartbeats 2000000 in
theorem amissM_any (f le : List UInt8) (p : Nat) (vf vl : Value) (w : World) (hp : p < 255) (hf : HasP w vf f) (hl : HasP w vl le) :
    Calls Tryd.prog 27 #[vf, vl, .int .i64 (p : Int)] w fun e w' => e = .returned (.int .u8 ((amB f le p).toNat : Int)) ∧ Below w.heap.size w w' := by
  obtain ⟨A1, n1, c1, rfl, HN1, hc1, hm1, hr1⟩ := hf
  obtain ⟨A2, n2, c2, rfl, HN2, hc2, hm2, hr2⟩ := hl
  have hx := gfexp_any (-(p : Int)) w
  rw [powZ_neg p hp] at hx
  have HX := Lib.hid hx
  have hw : IntKind.i64.wrap (-(p : Int)) = -(p : Int) := by rw [IntKind.wrap_i64]; omega
  clear hx
  obtain ⟨V, hV⟩ : ∃ V, amB f le p = V := ⟨_, rfl⟩
  rw [hV]
  unfold amB at hV
  generalize rootB p = r at HX hV
  obtain ⟨y, hy⟩ : ∃ y, evalL f r = y := ⟨_, rfl⟩
  have hEf := fun W (hW : Below w.heap.size w W) => evalP_any f r n1 A1 c1 W HN1 (hr1.keep hW) hc1 (by omega)
  rw [hy] at hEf hV
  have HEF := Lib.hid hEf
  have HV := Lib.hid hV
  clear hEf hy hV
  go_enter Tryd.func27, Tryd.ntmps27
  go_wp2_with fail
  refine HX.out.mono ?_
  rintro e w1 ⟨rfl, rfl⟩
  go_wp2_with fail
  refine (HEF.out _ (Below.refl _ _)).mono ?_
  rintro e w1 ⟨rfl, hb1⟩
  by_cases h0 : y = 0
  · subst h0
    have hV := HV.out
    rw [if_pos rfl] at hV
    clear HV
    replace hr1 := hr1.keep hb1
    replace hr2 := hr2.keep hb1
    have hB := hb1
    clear hb1
    go_wp2_with fail
    refine (slopeP_any f n1 A1 c1 _ HN1 hr1 hc1 (by omega)).mono ?_
    rintro e w2 ⟨A3, n3, c3, rfl, HN3, hc3, hr3, hb2⟩
    have hn3 : n3 ≤ 1000 := by
      rw [← HN3.out]
      have h1 := plain_len (slopeL f)
      have h2 : (plainL (slopeL f)).length ≤ f.length := (plain_le_iff _ _).2 fun k hk => by
        rw [co_slope]
        split
        · exact co_ge f _ (by omega)
        · rfl
      have := HN1.out
      omega
    have he : evalL (slopeL f) r = evalL (plainL (slopeL f)) r := (eval_congr (plain_eqv _) r).symm
    rw [he] at hV
    generalize plainL (slopeL f) = S at HN3 hr3 hV
    clear he
    replace hB := below_step hB hb2
    replace hr2 := hr2.keep hb2
    obtain ⟨z, hz⟩ : ∃ z, evalL S r = z := ⟨_, rfl⟩
    obtain ⟨u, hu⟩ : ∃ u, evalL le r = u := ⟨_, rfl⟩
    have hES := evalP_any S r n3 A3 c3 w2 HN3 hr3 hc3 (by omega)
    have hEL := fun W (hW : Below w2.heap.size w2 W) => evalP_any le r n2 A2 c2 W HN2 (hr2.keep hW) hc2 (by omega)
    rw [hz] at hES hV
    rw [hu] at hEL hV
    have HV := Lib.hid hV
    clear hV
    have HES := Lib.hid hES
    have HEL := Lib.hid hEL
    clear hES hEL hz hu hb2
    go_wp2_with fail
    refine HES.out.mono ?_
    rintro e w3 ⟨rfl, hb3⟩
    replace hB := below_step hB hb3
    by_cases hz : z = 0
    · subst hz
      have HV0 : Hid (V = 0) := by unfold Hid; rw [← HV.out, if_pos rfl]
      clear HV
      go_wp2_with fail
      refine (gfinv_zero _).mono ?_
      rintro e w4 ⟨rfl, rfl⟩
      go_wp2_with fail
      refine (HEL.out _ hb3).mono ?_
      rintro e w5 ⟨rfl, hb5⟩
      replace hB := below_step hB hb5
      have hm := gfmul_any u 0 w5
      rw [mul_zero] at hm
      have HMU := Lib.hid hm
      clear hm
      go_wp2_with fail
      refine HMU.out.mono ?_
      rintro e w6 ⟨rfl, rfl⟩
      go_wp2_with fail
      go_ret
      exact ⟨ret_int (by rw [HV0.out]; rfl), hB⟩
    · have HV0 : Hid (V = mulB u (invB z)) := by unfold Hid; rw [← HV.out, if_neg hz]
      clear HV
      go_wp2_with fail
      refine (gfinv_any z _ hz).mono ?_
      rintro e w4 ⟨rfl, rfl⟩
      go_wp2_with fail
      refine (HEL.out _ hb3).mono ?_
      rintro e w5 ⟨rfl, hb5⟩
      replace hB := below_step hB hb5
      go_wp2_with fail
      refine (gfmul_any u (invB z) _).mono ?_
      rintro e w6 ⟨rfl, rfl⟩
      go_wp2_with fail
      go_ret
      exact ⟨ret_int (by rw [HV0.out]), hB⟩
  · have HV0 : Hid (V = 0) := by unfold Hid; rw [← HV.out, if_neg h0]
    clear HV
    have hne : ((y.toNat : Int) != 0) = true := by
      rw [bne_iff_ne]
      intro e
      apply h0
      apply UInt8.toNat_inj.1
      rw [show (0 : UInt8).toNat = 0 from rfl]
      omega
    go_wp2_with fail
    go_ret
    exact ⟨ret_int (by rw [HV0.out]; rfl), hb1⟩

/-! ### Mend -/
/-- A call that hands back bytes, how many places, and an error. -/
def RetM (w : World) (s : List UInt8 × Nat × Int) (e : Ending) (w' : World) : Prop := ∃ A n c, e = .returned (.tuple #[.slice A n c, .int .i64 (s.2.1 : Int), .int .i64 s.2.2]) ∧ Hid (s.1.length = n) ∧ n ≤ c ∧ Rd vB w' A s.1 ∧ Below w.heap.size w w' ∧ ∀ a, A = some a → w.heap.size ≤ a.block
theorem RetM.to {w w' : World} {s : List UInt8 × Nat × Int} {e : Ending} (h : RetM w s e w') (l : List UInt8) (k : Nat) (kz err : Int) (hs : s = (l, k, err)) (hk : (k : Int) = kz) :
    ∃ A n c, e = .returned (.tuple #[.slice A n c, .int .i64 kz, .int .i64 err]) ∧ Hid (l.length = n) ∧ n ≤ c ∧ Rd vB w' A l ∧ Below w.heap.size w w' ∧ ∀ a, A = some a → w.heap.size ≤ a.block := by
  subst hs
  subst hk
  exact h
def MendR (b am : List UInt8) (g : Nat) (wb : World) (pv kv : Value) (wr : World) : Prop :=
  ∃ (j : Nat) (T : List UInt8), j ≤ b.length ∧ kv = .int .i64 (j : Int) ∧ pv = .int .i64 ((wtL (am.take j) : Nat) : Int) ∧ T.length = b.length ∧ (∀ i, i < b.length → co T i = if i < j then addB (co b i) (co am i) else co b i) ∧ Cel wr g 5 T ∧ Below wb.heap.size wb wr
set_option maxHeartbeats 2000000 in
theorem mendM_ok (b : List UInt8) (len n : Nat) (A : Option Addr) (c : Nat) (w : World) (HN : Hid (b.length = len)) (hr : Rd vB w A b) (hc : len ≤ c) (h1 : 1 ≤ n) (h2 : n ≤ 64) (h3 : n ≤ len) (h4 : len ≤ 255) :
    Calls Tryd.prog 15 #[.slice A len c, .int .i64 (n : Int)] w (RetM w (mendS b n)) := by
  obtain ⟨i0, hi, hz0, hz1, hz2⟩ := info_parts info_u8
  have e1 := HN.out
  subst e1
  have hE : errS b.length n = 0 := by unfold errS; rw [if_neg (by omega), if_neg (by omega), if_neg (by omega)]
  have HSI := Lib.hid (signsS_ok b b.length n A c w HN hr hc h1 h2 h3 h4)
  have HNear : Hid (∀ a, Near b n a → mendS b n = (a, difL b a, 0)) := fun a ha => mendS_near hE h4 ha
  have HMany : Hid ((∀ a, ¬ Near b n a) → mendS b n = ([], 0, 6)) := fun ha => mendS_many hE ha
  generalize mendS b n = R at HNear HMany ⊢
  clear hE
  go_enter Tryd.func15, Tryd.ntmps15
  go_wp2_with fail
  refine HSI.out.mono ?_
  rintro e w1 ⟨A1, n1, c1, rfl, HN1, hc1, hr1, hb1⟩
  have en1 : n1 = n := by rw [← HN1.out, signs_length]
  subst en1
  clear HSI
  go_wp2_with fail
  refine (solveM_any (signsL b n1) n1 A1 c1 w1 HN1 hr1 hc1 h1 h2).mono ?_
  rintro e w2 ⟨vf, vl, ah, le, fA, fi, rfl, hf, hle, hb2, HEU⟩
  obtain ⟨M, hM, hMl, hMd, hMn, hMu⟩ := mended_right h4 HEU.out.1 HEU.out.2
  obtain ⟨am, ham⟩ : ∃ am, amL fi le b.length = am := ⟨_, rfl⟩
  have hal : am.length = b.length := by rw [← ham]; exact am_length _ _ _
  have HCO : Hid (∀ j, j < b.length → amB fi le (b.length - 1 - j) = co am j) := fun j hj => by rw [← ham, co_am _ _ _ _ hj]
  rw [ham] at hM hMd
  have HM1 := Lib.hid hM
  have HM2 := Lib.hid hMd
  have HM3 := Lib.hid hMn
  have HM4 := Lib.hid hMu
  replace hr := hr.keep (below_step hb1 hb2)
  have hB := below_step hb1 hb2
  clear hr1 HEU HN1 ham hM hMd hMn hMu hb1 hb2
  go_wp2_with fail
  refine (clone_own b A c w2 hr (by omega)).mono ?_
  rintro e w3 ⟨v, rfl, ho, hb3⟩
  obtain ⟨A3, c3, rfl, hc3⟩ := own_form ho
  obtain ⟨g, rfl, hg, _⟩ := cel_of_own ho rfl (by omega)
  obtain ⟨hcel, _, hle3, hmax⟩ := celN_some ho rfl
  have hc0 := hcel.cel
  have hgw : w.heap.size ≤ g := Nat.le_trans hB.size hg
  clear ho hcel
  have hrel0 : MendR b am g w2 (.int .i64 0) (.int .i64 0) w3 := ⟨0, b, Nat.zero_le _, rfl, rfl, rfl, fun i hi => by rw [if_neg (Nat.not_lt_zero i)], hc0, hb3⟩
  have HREL := Lib.hid hrel0
  clear hrel0 hc0 hb3
  go_wp2_with fail
  go_loopw [12, 33] (fun p k wr => MendR b am g w2 p k wr) (fun _ k _ => b.length - (intOf k).toNat)
  case atStart => exact HREL.out
  case round =>
    clear HREL
    obtain ⟨j, T, hj, rfl, rfl, hT, hS, hcel, hbr⟩ := hrel
    have hf' := hf.keep hbr
    have hl' := hle.keep hbr
    by_cases h : j < b.length
    · have j1 : (j : Int) < (b.length : Int) := by omega
      have j0 : (0 : Int) ≤ (j : Int) := by omega
      obtain ⟨p, hp⟩ : ∃ p : Nat, p = b.length - 1 - j := ⟨_, rfl⟩
      have e1 : (b.length : Int) - 1 - (j : Int) = (p : Int) := by omega
      have hp2 : p < 255 := by omega
      have hA := amissM_any fi le p vf vl wr hp2 hf' hl'
      rw [hp, HCO.out j h] at hA
      rw [← hp] at hA
      have hkT : j < T.length := by omega
      have hSj := hS j h
      rw [if_neg (Nat.lt_irrefl j)] at hSj
      have hwt := wt_take am j (by omega)
      have hP255 : wtL (am.take (j + 1)) ≤ 255 := by have := wt_le (am.take (j + 1)); rw [List.length_take] at this; omega
      have HT1 : Hid (∀ (T' : List UInt8) (W : World), T'.length = b.length → (∀ i, i < b.length → co T' i = if i = j then addB (co b j) (co am j) else co T i) → Cel W g 5 T' → Below w2.heap.size w2 W → MendR b am g w2 (.int .i64 ((wtL (am.take (j + 1)) : Nat) : Int)) (.int .i64 ((j : Int) + 1)) W) := fun T' W t1 t2 t3 t4 =>
        ⟨j + 1, T', h, by go_num, rfl, t1, fun i hi => by
          rw [t2 i hi]
          by_cases e : i = j
          · subst e
            rw [if_pos rfl, if_pos (Nat.lt_succ_self i)]
          · rw [if_neg e, hS i hi]
            by_cases g1 : i < j
            · rw [if_pos g1, if_pos (by omega)]
            · rw [if_neg g1, if_neg (by omega)], t3, t4⟩
      generalize co am j = a at hA HT1 hwt
      generalize wtL (am.take j) = P0 at hwt ⊢
      generalize wtL (am.take (j + 1)) = P1 at hwt HT1 hP255
      have HA := Lib.hid hA
      have HSJ := Lib.hid hSj
      have HWT := Lib.hid hwt
      clear hA hS hp hSj hwt
      go_wp2_with fail
      refine HA.out.mono ?_
      rintro e w4 ⟨rfl, hb4⟩
      have hcel4 := hcel.later hb4
      have hB4 := below_step hbr hb4
      clear hcel hbr hf' hl' hb4 HA
      by_cases h0 : a = 0
      · subst h0
        have hP : P1 = P0 := by have := HWT.out; rw [if_pos rfl] at this; exact this
        subst hP
        have HR := Lib.hid (HT1.out T w4 hT (fun i hi => by
          by_cases e : i = j
          · subst e
            rw [if_pos rfl, HSJ.out, add_zero]
          · rw [if_neg e]) hcel4 hB4)
        clear HT1 HWT HSJ hcel4 hB4
        go_wp2_with fail
        go_roundw
        case rel => exact HR.out
        case measure => simp [intOf] <;> omega
      · have hne : ((a.toNat : Int) != 0) = true := by
          rw [bne_iff_ne]
          intro e
          apply h0
          apply UInt8.toNat_inj.1
          rw [show (0 : UInt8).toNat = 0 from rfl]
          omega
        have hP : ((P0 : Int) + 1) = (P1 : Int) := by have := HWT.out; rw [if_neg h0] at this; omega
        have hcj := hcel4.get j hkT
        rw [HSJ.out] at hcj
        have hfj := hcel4.frozen j
        have hcs := hcel4.set j (addB (co b j) a)
        have HR := fun hd => Lib.hid (HT1.out (T.set j (addB (co b j) a)) (w4.setCell ⟨g, j, none⟩ (.int .u8 ((addB (co b j) a).toNat : Int))) (by rw [List.length_set]; exact hT) (fun i hi => co_set T j i _ hkT) hcs hd)
        have HR2 := HR (hB4.setCell (p := ⟨g, j, none⟩) hg _)
        generalize co b j = bj at hcj HR2 HSJ hcs
        clear HT1 HWT HSJ hcel4 hcs hB4 HR
        go_wp2_with fail
        refine (gfadd_any bj a _).mono ?_
        rintro e w5 ⟨rfl, rfl⟩
        go_wp2_with fail
        go_roundw
        case rel => exact HR2.out
        case measure => simp [intOf] <;> omega
    · have ej : j = b.length := by omega
      subst ej
      have j1 : ¬ (b.length : Int) < (b.length : Int) := by omega
      have HT : Hid (T = M) := by
        unfold Hid
        rw [HM1.out]
        refine co_ext (by rw [hT, List.length_zipWith]; omega) (fun i hi => ?_)
        rw [hT] at hi
        rw [hS i hi, if_pos hi, co_zip _ _ _ hi (by omega)]
      have HW : Hid (wtL (am.take b.length) = difL b M) := by
        unfold Hid
        rw [HM2.out, ← hal, List.take_length]
      have e2 := HT.out
      subst e2
      rw [HW.out]
      have hrT := hcel.rd
      have hBw := below_step hB hbr
      have HTL := Lib.hid hT
      have hfin := fineS_any T b.length (n1 : Int) (some ⟨g, 0, none⟩) c3 wr HTL hrT hc3 (by omega)
      obtain ⟨F, hF⟩ : ∃ F, fineS T (n1 : Int) = F := ⟨_, rfl⟩
      have hiff := fineS_iff T n1 h1 h2 (by omega) (by omega)
      rw [hF] at hfin hiff
      have HFin := Lib.hid hfin
      have HIff := Lib.hid hiff
      obtain ⟨D, hD⟩ : ∃ D, difL b T = D := ⟨_, rfl⟩
      rw [hD]
      have HDD := Lib.hid hD
      clear hD
      clear hcel hS hbr hfin hiff hF hf' hl' hf hle hr hT hB HCO
      go_wp2_with fail
      refine HFin.out.mono ?_
      rintro e w6 ⟨rfl, hb6⟩
      have hB6 := below_step hBw hb6
      have hr6 := hrT.keep hb6
      cases F with
      | true =>
        have HRR : Hid (R = (T, difL b T, 0)) := HNear.out T (HM3.out (HIff.out.1 rfl))
        clear HNear HMany HM3 HM4 hBw hrT hb6
        go_wp2_with fail
        go_ret3
        rw [HRR.out, HDD.out]
        exact ⟨_, b.length, c3, rfl, HTL, hc3, hr6, hB6, fun a ha => by cases ha; exact hgw⟩
      | false =>
        have HRR : Hid (R = ([], 0, 6)) := HMany.out fun a ha => by
          have ea := HM4.out a ha
          subst ea
          have := HIff.out.2 ha.2.1
          cases this
        clear HNear HMany HM3 HM4 hBw hrT hb6
        go_wp2_with fail
        go_ret3
        rw [HRR.out]
        exact ⟨none, 0, 0, rfl, Lib.hid rfl, Nat.le_refl _, Rd.nil, hB6, fun a ha => by cases ha⟩
theorem mendM_no (b : List UInt8) (len : Nat) (n : Int) (A : Option Addr) (c : Nat) (w : World) (HN : Hid (b.length = len)) (hr : Rd vB w A b) (hc : len ≤ c) (hl : len ≤ 100000) (h : errS len n ≠ 0) :
    Calls Tryd.prog 15 #[.slice A len c, .int .i64 n] w (RetM w (mendS b n)) := by
  have HM := Lib.hid (signsS_no b len n A c w HN hr hc hl (Lib.hid h))
  rw [mendS_bad (by rw [HN.out]; exact h), HN.out]
  generalize errS len n = k at HM h ⊢
  have hk : (k != 0) = true := bne_iff_ne.2 h
  clear h
  go_enter Tryd.func15, Tryd.ntmps15
  go_wp2_with fail
  refine HM.out.mono ?_
  rintro e w1 ⟨A1, n1, c1, rfl, HN1, hc1, hr1, hb1⟩
  go_wp2_with fail
  go_ret3
  exact ⟨none, 0, 0, rfl, Lib.hid rfl, Nat.le_refl _, Rd.nil, hb1, fun a ha => by cases ha⟩
theorem mendM_any (b : List UInt8) (len : Nat) (n : Int) (A : Option Addr) (c : Nat) (w : World) (HN : Hid (b.length = len)) (hr : Rd vB w A b) (hc : len ≤ c) (hl : len ≤ 100000) :
    Calls Tryd.prog 15 #[.slice A len c, .int .i64 n] w (RetM w (mendS b n)) := by
  by_cases h : errS len n = 0
  · obtain ⟨m, rfl, h1, h2, h3, h4⟩ := errS_cases len n h
    exact mendM_ok b len m A c w HN hr hc h1 h2 h3 h4
  · exact mendM_no b len n A c w HN hr hc hl h
end Go.Proofs.YteppocjgodmpdaaDoor
/-
  What the program's calls of layer 13 answer (fault, Make, Read), and what the statements' Told makes of an error. Condition: errors.errorType holds the handle of the type error (EtC).
-/
namespace Go.Proofs.YteppocjgodmpdaaDoor
set_option maxRecDepth 100000
open Go.RowKit
set_option linter.unusedSimpArgs false
set_option linter.unusedVariables false

/-! ### fault -/
set_option maxHeartbeats 2000000 in
theorem fault_ok (s : Int) (w : World) (hg : EtC w) :
    Calls Tryd.prog 12 #[.int .i64 s, .iface 39 (.int .i64 0)] w fun e w' => e = .returned .nilIface ∧ Below w.heap.size w w' := by
  go_enter Tryd.func12, Tryd.ntmps12
  go_upto_region 2 with fail
  have hgl := etC_lt hg
  have hb := below_new (Below.refl w.heap.size w) (.cells #[.int .i64 0] 39)
  have hR : Row (w.alloc (.cells #[.int .i64 0] 39)) w.heap.size 39 [.int .i64 0] := Row.new w _ _ _ rfl
  have hg1 := hg.later hb
  generalize w.alloc (.cells #[.int .i64 0] 39) = W1 at hb hR hg1 ⊢
  go_wp2_with fail
  refine (as_errno 0 ⟨w.heap.size, 0, none⟩ (.int .i64 0) W1 hg1 (one_row hR) (hR.frozen 0)).mono ?_
  rintro e w2 ⟨rfl, hw2⟩
  obtain ⟨hR2, hb2⟩ := asR hR hw2
  replace hb := below_only hb hb2 (Nat.le_refl _)
  clear hw2 hb2
  have c0 := one_row hR2
  go_wp2_with fail
  go_ret
  exact ⟨rfl, hb⟩
set_option maxHeartbeats 2000000 in
theorem fault_no (s k : Int) (w : World) (hg : EtC w) (hk : k ≠ 0) :
    Calls Tryd.prog 12 #[.int .i64 s, .iface 39 (.int .i64 k)] w fun e w' => ∃ g, e = .returned (errV g) ∧ Flt w' g s k ∧ Below w.heap.size w w' ∧ w.heap.size ≤ g := by
  have hk0 : (k == 0) = false := beq_eq_false_iff_ne.2 hk
  have hk1 : (k != 0) = true := by rw [bne, hk0]; rfl
  go_enter Tryd.func12, Tryd.ntmps12
  go_upto_region 2 with fail
  have hgl := etC_lt hg
  have hb := below_new (Below.refl w.heap.size w) (.cells #[.int .i64 0] 39)
  have hR : Row (w.alloc (.cells #[.int .i64 0] 39)) w.heap.size 39 [.int .i64 0] := Row.new w _ _ _ rfl
  have hg1 := hg.later hb
  generalize w.alloc (.cells #[.int .i64 0] 39) = W1 at hb hR hg1 ⊢
  go_wp2_with fail
  refine (as_errno k ⟨w.heap.size, 0, none⟩ (.int .i64 0) W1 hg1 (one_row hR) (hR.frozen 0)).mono ?_
  rintro e w2 ⟨rfl, hw2⟩
  obtain ⟨hR2, hb2⟩ := asR hR hw2
  replace hb := below_only hb hb2 (Nat.le_refl _)
  clear hw2 hb2
  have c0 := one_row hR2
  go_wp2_with fail
  go_ret
  exact ⟨_, rfl, Row.new w2 _ _ _ rfl, below_new hb _, hb.size⟩

/-! ### Make -/
set_option maxHeartbeats 4000000 in
theorem makeB_ok (t e c : Nat) (tag : List UInt8) (A : Option Addr) (k : Nat) (w : World) (ht : t < 18446744073709551616) (he : e < 18446744073709551616) (hc : c < 18446744073709551616) (HN : Hid (tag.length = 8)) (hr : Rd vB w A tag) (hk : 8 ≤ k) (hg : EtC w) :
    Calls Tryd.prog 6 #[aggP t e c A 8 k] w fun e₁ w' => ∃ A' n c', e₁ = .returned (.tuple #[.slice A' n c', .nilIface]) ∧ Hid ((barL t e c tag).length = n) ∧ n ≤ c' ∧ Rd vB w' A' (barL t e c tag) ∧ Below w.heap.size w w' := by
  obtain ⟨hR0, hB0⟩ := box_pay w 25 (.int .u64 (t : Int)) (.int .u64 (e : Int)) (.int .u64 (c : Int)) (.slice A 8 k)
  unfold aggP
  go_enter Tryd.func6, Tryd.ntmps6
  go_upto_region 1 with fail
  generalize (w.alloc (.cells #[.int .u64 (t : Int), .int .u64 (e : Int), .int .u64 (c : Int), .slice A 8 k] 25)) = W0 at hR0 hB0 ⊢
  replace hg := hg.later hB0
  go_wp2_with (refine wpList_load_part rfl 25 (.tmp 1) rfl w.heap.size 0 rfl _ _ hR0 [.int .u64 (t : Int), .int .u64 (e : Int), .int .u64 (c : Int), .slice A 8 k] (by rfl) _ Tryd.underlying25 rfl (by exact size_pay') ?_)
  refine (writeP_ok t e c tag A k _ ht he hc HN (hr.keep hB0) hk).mono ?_
  rintro e₁ w1 ⟨A1, n1, c1, rfl, HN1, hc1, hr1, hb⟩
  have HL := Lib.hid (stuffed_length (t := t) (e := e) (c := c) HN.out)
  have HW := Lib.hid (write_length t e c tag HN.out)
  replace hg := hg.later hb
  replace hB0 := below_step hB0 hb
  clear hb hR0 hr ht he hc
  go_upto_region 2 with fail
  go_wp2_with fail
  refine (fault_ok 3 _ hg).mono ?_
  rintro e₁ w2 ⟨rfl, hb⟩
  replace hg := hg.later hb
  replace hr1 := hr1.keep hb
  replace hB0 := below_step hB0 hb
  clear hb
  go_wp2_with fail
  refine (putF_any (writeF t e c tag) n1 A1 c1 _ HN1 hr1 hc1 (by have := HW.out; have := HN1.out; omega)).mono ?_
  rintro e₁ w3 ⟨A3, n3, c3, rfl, HN3, hc3, hr3, hb⟩
  replace hB0 := below_step hB0 hb
  clear hb hr1
  go_wp2_with fail
  refine (putS_ok (putSt (writeF t e c tag)) n3 10 A3 c3 _ HN3 hr3 hc3 (by omega) (by omega) (by have := HL.out; have := HN3.out; omega)).mono ?_
  rintro e₁ w4 ⟨A4, n4, c4, rfl, HN4, hc4, hr4, hb⟩
  replace hB0 := below_step hB0 hb
  clear hb hr3
  go_wp2_with fail
  go_ret2
  exact ⟨A4, n4, c4, rfl, HN4, hc4, hr4, hB0⟩
set_option maxHeartbeats 4000000 in
theorem makeB_no (t e c : Nat) (tag : List UInt8) (n : Nat) (A : Option Addr) (k : Nat) (w : World) (ht : t < 18446744073709551616) (he : e < 18446744073709551616) (hc : c < 18446744073709551616) (HN : Hid (tag.length = n)) (hr : Rd vB w A tag) (hk : n ≤ k) (hn : n ≤ 100000) (h8 : n ≠ 8) (hg : EtC w) :
    Calls Tryd.prog 6 #[aggP t e c A n k] w fun e₁ w' => ∃ g, e₁ = .returned (.tuple #[.slice none 0 0, errV g]) ∧ Flt w' g 3 1 ∧ Below w.heap.size w w' := by
  obtain ⟨hR0, hB0⟩ := box_pay w 25 (.int .u64 (t : Int)) (.int .u64 (e : Int)) (.int .u64 (c : Int)) (.slice A n k)
  unfold aggP
  go_enter Tryd.func6, Tryd.ntmps6
  go_upto_region 1 with fail
  generalize (w.alloc (.cells #[.int .u64 (t : Int), .int .u64 (e : Int), .int .u64 (c : Int), .slice A n k] 25)) = W0 at hR0 hB0 ⊢
  replace hg := hg.later hB0
  go_wp2_with (refine wpList_load_part rfl 25 (.tmp 1) rfl w.heap.size 0 rfl _ _ hR0 [.int .u64 (t : Int), .int .u64 (e : Int), .int .u64 (c : Int), .slice A n k] (by rfl) _ Tryd.underlying25 rfl (by exact size_pay') ?_)
  refine (writeP_no t e c tag n A k _ ht he hc HN (hr.keep hB0) hk hn h8).mono ?_
  rintro e₁ w1 ⟨A1, n1, c1, rfl, HN1, hc1, hr1, hb⟩
  replace hg := hg.later hb
  replace hB0 := below_step hB0 hb
  clear hb hR0 hr ht he hc h8
  go_upto_region 2 with fail
  go_wp2_with fail
  refine (fault_no 3 1 _ hg (by omega)).mono ?_
  rintro e₁ w2 ⟨g, rfl, hF, hb, hgg⟩
  replace hB0 := below_step hB0 hb
  clear hb
  go_wp2_with fail
  go_ret2
  exact ⟨g, rfl, hF, hB0⟩

/-! ### Read -/
theorem results_cell_tmp2B {fn : Func} {p u v : Tmp} {ty : TypeId} (h : fn.results = #[.cell p ty, .tmp u, .tmp v]) (tmps : Array Value) (P : Program) (w : World) :
    (results fn tmps).run P w = ((asAddr (tmps.getD p undef)).run P w).andThen fun a w₁ => ((loadVar ty a).run P w₁).andThen fun x w₂ => .ok (.tuple #[x, tmps.getD u undef, tmps.getD v undef]) w₂ := by
  simp only [results, h]
  simp [Sem.run_bind, Result.andThen]
theorem results_row_tmp2B {P : Program} {fn : Func} {p u v : Tmp} {ty : TypeId} (h : fn.results = #[.cell p ty, .tmp u, .tmp v]) (tmps : Array Value) (w : World) (g : Nat) (t : TypeId) (l : List Value) (d : TypeDesc) (hp : tmps.getD p undef = .pointer (some ⟨g, 0, none⟩)) (hg : Row w g t l)
    (hu : P.underlying ty = some d) (hd : d.isRow = true) (hi : (P.info? ty).map (·.size) = some l.length) : (results fn tmps).run P w = .ok (.tuple #[.agg l.toArray, tmps.getD u undef, tmps.getD v undef]) w := by
  rw [results_cell_tmp2B h, hp]
  simp only [asAddr, Sem.run_pure, Result.andThen_ok, hg.loadVar (P := P) ty d hu hd hi]
def RetBar (w : World) (X : (Int × Nat × Nat × Nat × List UInt8) × Nat × Int) (e : Ending) (w' : World) : Prop :=
  ∃ A n k ev, e = .returned (.tuple #[aggP X.1.2.1 X.1.2.2.1 X.1.2.2.2.1 A n k, .int .i64 (X.2.1 : Int), ev]) ∧ Hid (X.1.2.2.2.2.length = n) ∧ n ≤ k ∧ Rd vB w' A X.1.2.2.2.2 ∧ Below w.heap.size w w' ∧ ErrV w' ev X.2.2 X.1.1
/-- How a fault is handed back: the payload's block as it was laid. -/
theorem retbar_no {w w' : World} {X : (Int × Nat × Nat × Nat × List UInt8) × Nat × Int} {s k : Int} {g : Nat} (hX : Hid (X = ((k, 0, 0, 0, []), 0, s))) (hk : k ≠ 0) (hF : Flt w' g s k) (hb : Below w.heap.size w w') : RetBar w X (.returned (.tuple #[aggP 0 0 0 none 0 0, .int .i64 0, errV g])) w' := by
  rw [hX.out]
  exact ⟨none, 0, 0, _, rfl, Lib.hid rfl, Nat.le_refl _, Rd.nil, hb, .inr ⟨hk, g, rfl, hF⟩⟩
theorem data_rd {W : World} {A : Option Addr} {m : List UInt8} (h : Rd vB W A m) : Rd vB W A (dataL m) := h.take (m.length - 10)
/-- No byte lies in a payload's block as it was laid. -/
theorem pay_apart {W : World} {g : Nat} {t : TypeId} {A : Option Addr} {l : List UInt8} (hR : Row W g t [.int .u64 0, .int .u64 0, .int .u64 0, .slice none 0 0]) (hr : Rd vB W A l) : l ≠ [] → ∀ a, A = some a → a.block ≠ g := fun hn a ha hg => by
  obtain ⟨b, o, rfl, hc⟩ := hr hn
  injection ha with ha
  subst ha
  have e : b = g := hg
  subst e
  have h0 := hc 0 (List.length_pos_iff.2 hn)
  rw [Nat.add_zero, hR.cell? o] at h0
  match o with
  | 0 => simp [vB] at h0
  | 1 => simp [vB] at h0
  | 2 => simp [vB] at h0
  | 3 => simp [vB] at h0
  | o + 4 => simp at h0
set_option maxHeartbeats 8000000 in
theorem readB_any (b : List UInt8) (len : Nat) (A : Option Addr) (c : Nat) (w : World) (HN : Hid (b.length = len)) (hr : Rd vB w A b) (hc : len ≤ c) (hl : len ≤ 10000) (hg : EtC w) :
    Calls Tryd.prog 8 #[.slice A len c] w (RetBar w (barsL b)) := by
  obtain ⟨X, hX⟩ : ∃ X, barsL b = X := ⟨_, rfl⟩
  rw [hX]
  replace hX := Lib.hid hX
  obtain ⟨hR0, hB0⟩ := box_pay w 25 (.int .u64 0) (.int .u64 0) (.int .u64 0) (.slice none 0 0)
  go_enter Tryd.func8, Tryd.ntmps8
  go_upto_region 1 with fail
  generalize (w.alloc (.cells #[.int .u64 0, .int .u64 0, .int .u64 0, .slice none 0 0] 25)) = W0 at hR0 hB0 ⊢
  replace hr := hr.keep hB0
  replace hg := hg.later hB0
  go_wp2_with fail
  refine (mendM_any b len 10 A c W0 HN hr hc (by omega)).mono ?_
  obtain ⟨m, pl, k, hS⟩ : ∃ m pl k, mendS b 10 = (m, pl, k) := ⟨_, _, _, rfl⟩
  rw [hS]
  rintro e₁ w1 ⟨A1, n1, c1, rfl, HN1, hc1, hr1, hb, _⟩
  dsimp only at HN1 hr1 ⊢
  have HS := Lib.hid hS
  have HM := Lib.hid (mend_length b)
  clear hS
  replace hg := hg.later hb
  replace hR0 := hR0.later hb
  replace hB0 := below_step hB0 hb
  clear hb hr
  go_upto_region 2 with fail
  by_cases hk : k = 0
  · subst hk
    obtain ⟨hm1, hm2, hm3⟩ : 10 ≤ n1 ∧ n1 = len ∧ len ≤ 255 := by
      have := HM.out (by rw [HS.out])
      rw [HS.out, HN.out] at this
      dsimp only at this
      rw [HN1.out] at this
      exact this
    obtain ⟨n2, rfl⟩ : ∃ n2, n1 = n2 + 10 := ⟨n1 - 10, by omega⟩
    have HX : Hid (X = gotL (dataL m) pl) := by
      unfold Hid
      rw [← hX.out]
      unfold barsL
      rw [HS.out, if_pos rfl]
    have HD : Hid ((dataL m).length = n2) := by
      unfold Hid dataL
      rw [List.length_take, HN1.out]
      omega
    have h2 : n2 ≤ 245 := by omega
    clear hX HM HS hm1 hm2 hm3
    go_wp2_with fail
    refine (fault_ok 1 _ hg).mono ?_
    rintro e₁ w2 ⟨rfl, hb⟩
    replace hg := hg.later hb
    replace hr1 := data_rd (hr1.keep hb)
    replace hR0 := hR0.later hb
    replace hB0 := below_step hB0 hb
    clear hb HN1
    go_upto_region 5 with fail
    generalize dataL m = d at HX HD hr1
    by_cases hq : putSt (candL d) = d
    · have HG : Hid (X = if (readF (candL d)).1 = 0 then (readF (candL d), pl, 0) else (readF (candL d), 0, 3)) := by
        unfold Hid
        rw [HX.out]
        unfold gotL
        rw [if_pos hq]
      have HL : Hid ((candL d).length ≤ n2) := by
        have := (put_length (candL d)).1
        rw [hq, HD.out] at this
        exact this
      go_wp2_with fail
      refine (getF_ok d n2 A1 c1 _ HD hr1 (by omega) (by omega) (Lib.hid hq)).mono ?_
      rintro e₁ w3 ⟨A3, n3, c3, rfl, HN3, hc3, hr3, hb⟩
      replace hg := hg.later hb
      replace hR0 := hR0.later hb
      replace hB0 := below_step hB0 hb
      clear hb hr1 HX
      have h3 : n3 ≤ 245 := by have := HL.out; rw [HN3.out] at this; omega
      generalize candL d = q at HG HL HN3 hr3
      clear hq HD HL
      go_upto_region 6 with fail
      go_wp2_with fail
      refine (fault_ok 2 _ hg).mono ?_
      rintro e₁ w4 ⟨rfl, hb⟩
      replace hg := hg.later hb
      replace hr3 := hr3.keep hb
      replace hR0 := hR0.later hb
      replace hB0 := below_step hB0 hb
      clear hb
      go_wp2_with fail
      refine (readP_any q n3 A3 c3 _ HN3 hr3 hc3 (by omega)).mono ?_
      obtain ⟨k5, t, e, c', tag, hF⟩ : ∃ k t e c tag, readF q = (k, t, e, c, tag) := ⟨_, _, _, _, _, rfl⟩
      have hbad : k5 ≠ 0 → (t = 0 ∧ e = 0 ∧ c' = 0 ∧ tag = []) := fun h => by
        have := readF_bad q (by rw [hF]; exact h)
        rw [hF] at this
        simpa using this
      rw [hF] at HG ⊢
      rintro e₁ w5 ⟨A5, n5, c5, rfl, HN5, hc5, hr5, hb⟩
      dsimp only at HN5 hr5 HG ⊢
      replace hg := hg.later hb
      replace hR0 := hR0.later hb
      replace hB0 := below_step hB0 hb
      clear hb hr3 hF HN3
      have hRn : Row (w5.alloc (.cells #[.int .u64 0, .int .u64 0, .int .u64 0, .slice none 0 0] 25)) w5.heap.size 25 [.int .u64 0, .int .u64 0, .int .u64 0, .slice none 0 0] := Row.new w5 _ _ _ rfl
      go_upto_region 10 with (refine wpList_store_row rfl 25 (.tmp 11) (.tmp 45) rfl w5.heap.size rfl [.int .u64 (t : Int), .int .u64 (e : Int), .int .u64 (c' : Int), .slice A5 n5 c5] rfl _ _ hRn (by exact size_pay') rfl (one_four _ _ _ _ rfl rfl rfl rfl) ?_)
      have hRp := hRn.setRow [.int .u64 (t : Int), .int .u64 (e : Int), .int .u64 (c' : Int), .slice A5 n5 c5]
      have hb2 : Below w5.heap.size w5 ((w5.alloc (.cells #[.int .u64 0, .int .u64 0, .int .u64 0, .slice none 0 0] 25)).setRow w5.heap.size [.int .u64 (t : Int), .int .u64 (e : Int), .int .u64 (c' : Int), .slice A5 n5 c5].toArray) := below_setRow (below_new (Below.refl _ _) _) (Nat.le_refl _) _
      have hgw := hR0.lt
      have hoff := hr5.off
      replace hg := hg.later hb2
      replace hr5 := hr5.keep hb2
      replace hR0 := hR0.later hb2
      replace hB0 := below_step hB0 hb2
      generalize (w5.alloc (.cells #[.int .u64 0, .int .u64 0, .int .u64 0, .slice none 0 0] 25)).setRow w5.heap.size [.int .u64 (t : Int), .int .u64 (e : Int), .int .u64 (c' : Int), .slice A5 n5 c5].toArray = W6 at hg hr5 hR0 hB0 hRp ⊢
      generalize w5.heap.size = gp at hRp hgw hoff ⊢
      clear hRn hb2
      by_cases hk5 : k5 = 0
      · subst hk5
        rw [if_pos rfl] at HG
        go_wp2_with fail
        refine (fault_ok 3 _ hg).mono ?_
        rintro e₁ w7 ⟨rfl, hb⟩
        replace hg := hg.later hb
        replace hr5 := hr5.keep hb
        replace hR0 := hR0.later hb
        replace hRp := hRp.later hb
        replace hB0 := below_step hB0 hb
        clear hb
        have hap := pay_apart hR0 hr5
        go_wp2_with (first
          | (refine wpList_load_part rfl 25 (.tmp 11) rfl gp 0 rfl _ _ hRp [.int .u64 (t : Int), .int .u64 (e : Int), .int .u64 (c' : Int), .slice A5 n5 c5] (by rfl) _ Tryd.underlying25 rfl (by exact size_pay') ?_)
          | (refine wpList_store_row rfl 25 (.tmp 2) (.tmp 54) rfl w.heap.size rfl [.int .u64 (t : Int), .int .u64 (e : Int), .int .u64 (c' : Int), .slice A5 n5 c5] rfl _ _ hR0 (by exact size_pay') rfl (one_four _ _ _ _ rfl rfl rfl rfl) ?_))
        refine bodyPost_ret (results_row_tmp2B (p := 2) (u := 3) (v := 4) (ty := 25) (by rfl) _ _ w.heap.size 25 _ _ (by rfl) (by exact hR0.setRow _) Tryd.underlying25 (by rfl) (by exact size_pay')) (by rfl) ?_
        rw [HG.out]
        exact ⟨A5, n5, c5, .nilIface, rfl, HN5, hc5, hr5.only ((Only.refl w.heap.size _).setRow _) hap, below_setRow hB0 (Nat.le_refl _) _, .inl ⟨rfl, rfl⟩⟩
      · obtain ⟨rfl, rfl, rfl, rfl⟩ := hbad hk5
        rw [if_neg hk5] at HG
        go_wp2_with fail
        refine (fault_no 3 k5 _ hg hk5).mono ?_
        rintro e₁ w7 ⟨g, rfl, hF, hb, hgg⟩
        have hgw := hR0.lt
        replace hR0 := hR0.later hb
        replace hB0 := below_step hB0 hb
        clear hb
        go_upto_region 12 with fail
        go_wp2_with (refine wpList_store_row rfl 25 (.tmp 2) (.tmp 52) rfl w.heap.size rfl [.int .u64 0, .int .u64 0, .int .u64 0, .slice none 0 0] rfl _ _ hR0 (by exact size_pay') rfl (one_four _ _ _ _ rfl rfl rfl rfl) ?_)
        refine bodyPost_ret (results_row_tmp2B (p := 2) (u := 3) (v := 4) (ty := 25) (by rfl) _ _ w.heap.size 25 _ _ (by rfl) (by exact hR0.setRow _) Tryd.underlying25 (by rfl) (by exact size_pay')) (by rfl) ?_
        exact retbar_no HG hk5 (Row.setRow_other hF (by omega) _) (below_setRow hB0 (Nat.le_refl _) _)
    · have HG : Hid (X = ((3, 0, 0, 0, []), 0, 2)) := by
        unfold Hid
        rw [HX.out]
        unfold gotL
        rw [if_neg hq]
      go_wp2_with fail
      refine (getF_no d n2 A1 c1 _ HD hr1 (by omega) (by omega) (Lib.hid hq)).mono ?_
      rintro e₁ w3 ⟨A3, n3, c3, rfl, HN3, hc3, hr3, hb⟩
      replace hg := hg.later hb
      replace hR0 := hR0.later hb
      replace hB0 := below_step hB0 hb
      clear hb hr1 HX
      go_upto_region 6 with fail
      go_wp2_with fail
      refine (fault_no 2 3 _ hg (by omega)).mono ?_
      rintro e₁ w4 ⟨g, rfl, hF, hb, hgg⟩
      have hgw := hR0.lt
      replace hR0 := hR0.later hb
      replace hB0 := below_step hB0 hb
      clear hb
      go_upto_region 8 with fail
      go_wp2_with (refine wpList_store_row rfl 25 (.tmp 2) (.tmp 40) rfl w.heap.size rfl [.int .u64 0, .int .u64 0, .int .u64 0, .slice none 0 0] rfl _ _ hR0 (by exact size_pay') rfl (one_four _ _ _ _ rfl rfl rfl rfl) ?_)
      refine bodyPost_ret (results_row_tmp2B (p := 2) (u := 3) (v := 4) (ty := 25) (by rfl) _ _ w.heap.size 25 _ _ (by rfl) (by exact hR0.setRow _) Tryd.underlying25 (by rfl) (by exact size_pay')) (by rfl) ?_
      exact retbar_no HG (by omega) (Row.setRow_other hF (by omega) _) (below_setRow hB0 (Nat.le_refl _) _)
  · go_wp2_with fail
    refine (fault_no 1 k _ hg hk).mono ?_
    rintro e₁ w2 ⟨g, rfl, hF, hb, hgg⟩
    have hgw := hR0.lt
    replace hR0 := hR0.later hb
    replace hB0 := below_step hB0 hb
    clear hb
    have HX : Hid (X = ((k, 0, 0, 0, []), 0, 1)) := by
      unfold Hid
      rw [← hX.out]
      unfold barsL
      rw [HS.out, if_neg hk]
    clear hX HM HS
    go_upto_region 4 with fail
    go_wp2_with (refine wpList_store_row rfl 25 (.tmp 2) (.tmp 24) rfl w.heap.size rfl [.int .u64 0, .int .u64 0, .int .u64 0, .slice none 0 0] rfl _ _ hR0 (by exact size_pay') rfl (one_four _ _ _ _ rfl rfl rfl rfl) ?_)
    refine bodyPost_ret (results_row_tmp2B (p := 2) (u := 3) (v := 4) (ty := 25) (by rfl) _ _ w.heap.size 25 _ _ (by rfl) (by exact hR0.setRow _) Tryd.underlying25 (by rfl) (by exact size_pay')) (by rfl) ?_
    exact retbar_no HX hk (Row.setRow_other hF (by omega) _) (below_setRow hB0 (Nat.le_refl _) _)
/-- Its two ways. -/
theorem readB_ok (b : List UInt8) (t e c : Nat) (tag : List UInt8) (n : Nat) (len : Nat) (A : Option Addr) (cap : Nat) (w : World) (HN : Hid (b.length = len)) (hr : Rd vB w A b) (hc : len ≤ cap) (hl : len ≤ 10000) (hg : EtC w) (H : Hid (barsL b = ((0, t, e, c, tag), n, 0))) :
    Calls Tryd.prog 8 #[.slice A len cap] w fun e₁ w' => ∃ A' m k, e₁ = .returned (.tuple #[aggP t e c A' m k, .int .i64 (n : Int), .nilIface]) ∧ Hid (tag.length = m) ∧ m ≤ k ∧ Rd vB w' A' tag ∧ Below w.heap.size w w' := by
  refine (readB_any b len A cap w HN hr hc hl hg).mono ?_
  rw [H.out]
  rintro e₁ w' ⟨A', m, k, ev, rfl, h1, h2, h3, h4, h5⟩
  rcases h5 with ⟨_, rfl⟩ | ⟨h, _⟩
  · exact ⟨A', m, k, rfl, h1, h2, h3, h4⟩
  · exact absurd rfl h
theorem readB_no (b : List UInt8) (k s : Int) (len : Nat) (A : Option Addr) (cap : Nat) (w : World) (HN : Hid (b.length = len)) (hr : Rd vB w A b) (hc : len ≤ cap) (hl : len ≤ 10000) (hg : EtC w) (H : Hid (barsL b = ((k, 0, 0, 0, []), 0, s))) (hk : k ≠ 0) :
    Calls Tryd.prog 8 #[.slice A len cap] w fun e₁ w' => ∃ A' c' g, e₁ = .returned (.tuple #[aggP 0 0 0 A' 0 c', .int .i64 0, errV g]) ∧ Flt w' g s k ∧ Below w.heap.size w w' := by
  refine (readB_any b len A cap w HN hr hc hl hg).mono ?_
  rw [H.out]
  rintro e₁ w' ⟨A', m, c', ev, rfl, h1, h2, h3, h4, h5⟩
  have hm : m = 0 := h1.out.symm
  subst hm
  rcases h5 with ⟨h, _⟩ | ⟨_, g, rfl, hF⟩
  · exact absurd h hk
  · exact ⟨A', c', g, rfl, hF, h4⟩
end Go.Proofs.YteppocjgodmpdaaDoor
/-
  A literal's bytes, converted to their own type: a row with a frozen mark reads as the bytes did (no program is named here). No conditions but those typed.
-/
namespace Go.Proofs.YteppocjgodmpdaaDoor
set_option maxRecDepth 100000
open Go.RowKit

theorem Rd.new_fr {α : Type} {f : α → Value} (w : World) (g : Nat) (hg : g = w.heap.size) (l : List α) (cs : Array Value) (e : TypeId) (fr : Nat × Nat) (h : cs = (l.map f).toArray) : Rd f (w.alloc (.cells cs e fr)) (some ⟨g, 0, none⟩) l := fun _ => by
  subst hg
  refine ⟨w.heap.size, 0, rfl, fun i hi => ?_⟩
  subst h
  rw [cell_of_row _ w.heap.size (0 + i) _ e fr (heap_alloc_new w _)]
  simp [hi]
end Go.Proofs.YteppocjgodmpdaaDoor
/-
  What the call awake of layer 13's statements answers: true. Condition: errors.errorType holds the handle of the type error (EtC).
-/
namespace Go.Proofs.YteppocjgodmpdaaDoor
set_option maxRecDepth 100000
open Go.RowKit
set_option linter.unusedSimpArgs false
set_option linter.unusedVariables false

def tag8B : List UInt8 := [49, 50, 51, 52, 53, 54, 55, 56]
theorem bw_make : barL 7 1 300 tag8B = [87, 1, 131, 128, 128, 129, 1, 75, 12, 76, 140, 205, 13, 77, 141, 206, 63, 201, 218, 207, 117, 13, 72, 16, 108, 238, 59] := by decide +kernel
theorem bw_read : barsL [86, 1, 131, 128, 128, 129, 1, 75, 12, 179, 140, 205, 13, 77, 141, 206, 63, 201, 218, 207, 117, 13, 72, 16, 108, 238, 59] = ((0, 7, 1, 300, tag8B), 2, 0) := by
  have hd : difL [86, 1, 131, 128, 128, 129, 1, 75, 12, 179, 140, 205, 13, 77, 141, 206, 63, 201, 218, 207, 117, 13, 72, 16, 108, 238, 59] [87, 1, 131, 128, 128, 129, 1, 75, 12, 76, 140, 205, 13, 77, 141, 206, 63, 201, 218, 207, 117, 13, 72, 16, 108, 238, 59] = 2 := by decide +kernel
  have h := bars_near (t := 7) (e := 1) (c := 300) (tag := tag8B) (by decide) (by decide) (by decide) rfl [86, 1, 131, 128, 128, 129, 1, 75, 12, 179, 140, 205, 13, 77, 141, 206, 63, 201, 218, 207, 117, 13, 72, 16, 108, 238, 59] (by rw [bw_make]; rfl) (by rw [bw_make, hd]; decide)
  rw [bw_make, hd] at h
  exact h
theorem bw_none : barsL [] = ((2, 0, 0, 0, []), 0, 1) := by
  have h := mendS_bad (b := []) (n := 10) (by decide)
  unfold barsL
  rw [h]
  rfl
theorem bw_same : sameF 7 1 300 tag8B 7 1 300 tag8B = true := by decide +kernel

set_option maxRecDepth 100000 in
set_option maxHeartbeats 8000000 in
theorem awake13_any (w : World) (hg : EtC w) : Calls Tryd.prog 5 #[] w fun e w' => e = .returned (.bool true) ∧ Below w.heap.size w w' := by
  obtain ⟨i0, hi, hz0, hz1, hz2⟩ := info_parts info_u8
  go_enter Tryd.func5, Tryd.ntmps5
  have hcv := Lib.run_convert_bytes_const (P := Tryd.prog) w 23 5 #[.int .u8 49, .int .u8 50, .int .u8 51, .int .u8 52, .int .u8 53, .int .u8 54, .int .u8 55, .int .u8 56] 8 8 Tryd.underlying23 Tryd.underlying5
  have hrt := Rd.new_fr (f := vB) w _ rfl tag8B #[.int .u8 49, .int .u8 50, .int .u8 51, .int .u8 52, .int .u8 53, .int .u8 54, .int .u8 55, .int .u8 56] 5 (8, 9) rfl
  have hR0 : Row ((w.alloc (.cells #[.int .u8 49, .int .u8 50, .int .u8 51, .int .u8 52, .int .u8 53, .int .u8 54, .int .u8 55, .int .u8 56] 5 (8, 9))).alloc (.cells #[.int .u64 0, .int .u64 0, .int .u64 0, .slice none 0 0] 25)) (w.heap.size + 1) 25 [.int .u64 0, .int .u64 0, .int .u64 0, .slice none 0 0] := Row.new_at _ _ (by simp) _ _ _ rfl
  go_upto_region 2 with (refine wpList_store_row rfl 25 (.tmp 1) (.tmp 15) rfl (w.heap.size + 1) rfl [.int .u64 7, .int .u64 1, .int .u64 300, .slice (some ⟨w.heap.size, 0, none⟩) 8 8] rfl _ _ hR0 (by exact size_pay') rfl (one_four _ _ _ _ rfl rfl rfl rfl) ?_)
  have hRp := hR0.setRow [.int .u64 7, .int .u64 1, .int .u64 300, .slice (some ⟨w.heap.size, 0, none⟩) 8 8]
  have hB1 := below_new (Below.refl w.heap.size w) (.cells #[.int .u8 49, .int .u8 50, .int .u8 51, .int .u8 52, .int .u8 53, .int .u8 54, .int .u8 55, .int .u8 56] 5 (8, 9))
  have hs1 : (w.alloc (.cells #[.int .u8 49, .int .u8 50, .int .u8 51, .int .u8 52, .int .u8 53, .int .u8 54, .int .u8 55, .int .u8 56] 5 (8, 9))).heap.size = w.heap.size + 1 := by simp
  generalize w.alloc (.cells #[.int .u8 49, .int .u8 50, .int .u8 51, .int .u8 52, .int .u8 53, .int .u8 54, .int .u8 55, .int .u8 56] 5 (8, 9)) = W1 at hrt hR0 hRp hB1 hs1 ⊢
  have hb2 : Below W1.heap.size W1 ((W1.alloc (.cells #[.int .u64 0, .int .u64 0, .int .u64 0, .slice none 0 0] 25)).setRow (w.heap.size + 1) [.int .u64 7, .int .u64 1, .int .u64 300, .slice (some ⟨w.heap.size, 0, none⟩) 8 8].toArray) := below_setRow (below_new (Below.refl _ _) _) (by omega) _
  replace hrt := hrt.keep hb2
  have hB := below_step hB1 hb2
  generalize (W1.alloc (.cells #[.int .u64 0, .int .u64 0, .int .u64 0, .slice none 0 0] 25)).setRow (w.heap.size + 1) [.int .u64 7, .int .u64 1, .int .u64 300, .slice (some ⟨w.heap.size, 0, none⟩) 8 8].toArray = W2 at hrt hRp hB ⊢
  clear hcv hR0 hB1 hs1 hb2
  replace hg := hg.later hB
  go_wp2_with (refine wpList_load_part rfl 25 (.tmp 1) rfl (w.heap.size + 1) 0 rfl _ _ hRp [.int .u64 7, .int .u64 1, .int .u64 300, .slice (some ⟨w.heap.size, 0, none⟩) 8 8] (by rfl) _ Tryd.underlying25 rfl (by exact size_pay') ?_)
  refine (makeB_ok 7 1 300 tag8B _ 8 _ (by omega) (by omega) (by omega) (Lib.hid rfl) hrt (Nat.le_refl _) hg).mono ?_
  rintro e w1 ⟨A1, n1, c1, rfl, HN1, hc1, hr1, hb⟩
  rw [bw_make] at HN1 hr1
  have en1 : n1 = 27 := HN1.out.symm
  subst en1
  replace hg := hg.later hb
  replace hrt := hrt.keep hb
  replace hRp := hRp.later hb
  replace hB := below_step hB hb
  clear hb
  have hown0 : (w1.alloc (.cells #[] 5)).ownsRow w1.heap.size 5 1 (.slice (some ⟨w1.heap.size, 0, none⟩) 0 0) 0 [] := World.ownsRow_made w1 #[] 0 (Nat.le_refl _) (by unfold maxLen; omega) rfl
  have hB0 := below_new (Below.refl _ w1) (.cells #[] 5)
  have hrX0 := hr1.keep hB0
  go_upto_region 6 with (at_builtin; refine wpList_append_rd _ rfl (.tmp 24) (.tmp 25) 23 rfl w1.heap.size 5 i0 (.int .u8 0) 1 Tryd.underlying23 hi hz0 hz1 hz2 rfl _ _ _ rfl hown0 A1 [87, 1, 131, 128, 128, 129, 1, 75, 12, 76, 140, 205, 13, 77, 141, 206, 63, 201, 218, 207, 117, 13, 72, 16, 108, 238, 59] c1 rfl hrX0 vB_one (by unfold maxLen; simp) (by simp) (by simp) ?_; intro v4 w4 hown4 hgrow4)
  have hown5 : w4.ownsRow w1.heap.size 5 1 v4 27 (([87, 1, 131, 128, 128, 129, 1, 75, 12, 76, 140, 205, 13, 77, 141, 206, 63, 201, 218, 207, 117, 13, 72, 16, 108, 238, 59] : List UInt8).map vB) := hown4
  have hb4 : Below w1.heap.size w1 w4 := hB0.grown hgrow4 (by simp) (fun k hk => (hown0.lt k hk).1)
  obtain ⟨A4, c4, rfl, hc4⟩ := own_form hown5
  obtain ⟨g, rfl, hgg, hcel0⟩ := cel_of_own hown5 rfl (by decide)
  have q1 : w4.cell? ⟨g, 0, none⟩ = some (.int .u8 87) := hcel0.get 0 (by decide)
  have f1 := hcel0.frozen 0
  have hcel1 : Cel (w4.setCell ⟨g, 0, none⟩ (.int .u8 86)) g 5 [86, 1, 131, 128, 128, 129, 1, 75, 12, 76, 140, 205, 13, 77, 141, 206, 63, 201, 218, 207, 117, 13, 72, 16, 108, 238, 59] := hcel0.set 0 86
  have q2 : (w4.setCell ⟨g, 0, none⟩ (.int .u8 86)).cell? ⟨g, 9, none⟩ = some (.int .u8 76) := hcel1.get 9 (by decide)
  have f2 := hcel1.frozen 9
  have hcel2 : Cel ((w4.setCell ⟨g, 0, none⟩ (.int .u8 86)).setCell ⟨g, 9, none⟩ (.int .u8 179)) g 5 [86, 1, 131, 128, 128, 129, 1, 75, 12, 179, 140, 205, 13, 77, 141, 206, 63, 201, 218, 207, 117, 13, 72, 16, 108, 238, 59] := hcel1.set 9 179
  have hb6 : Below w1.heap.size w1 ((w4.setCell ⟨g, 0, none⟩ (.int .u8 86)).setCell ⟨g, 9, none⟩ (.int .u8 179)) := (hb4.setCell (p := ⟨g, 0, none⟩) hgg _).setCell (p := ⟨g, 9, none⟩) hgg _
  have x1 : bits .xor .u8 87 1 = 86 := by decide
  have x2 : bits .xor .u8 76 255 = 179 := by decide
  have HX := Lib.hid hcel2
  clear hown0 hown4 hown5 hgrow4 hB0 hrX0 hcel0 hcel1 hb4 hcel2
  go_upto_region 8 with fail
  clear q1 q2 f1 f2 x1 x2
  generalize (w4.setCell ⟨g, 0, none⟩ (.int .u8 86)).setCell ⟨g, 9, none⟩ (.int .u8 179) = w6 at HX hb6 ⊢
  replace hg := hg.later hb6
  replace hrt := hrt.keep hb6
  replace hRp := hRp.later hb6
  replace hB := below_step hB hb6
  clear hb6
  go_wp2_with fail
  refine (readB_ok [86, 1, 131, 128, 128, 129, 1, 75, 12, 179, 140, 205, 13, 77, 141, 206, 63, 201, 218, 207, 117, 13, 72, 16, 108, 238, 59] 7 1 300 tag8B 2 27 (some ⟨g, 0, none⟩) c4 w6 (Lib.hid rfl) HX.out.rd hc4 (by omega) hg (Lib.hid bw_read)).mono ?_
  rintro e w7 ⟨A7, m7, k7, rfl, HN7, hk7, hr7, hb⟩
  have em7 : m7 = 8 := HN7.out.symm
  subst em7
  replace hg := hg.later hb
  replace hrt := hrt.keep hb
  replace hRp := hRp.later hb
  replace hB := below_step hB hb
  clear hb HX hr1
  have hR0 : Row (w7.alloc (.cells #[.int .u64 0, .int .u64 0, .int .u64 0, .slice none 0 0] 25)) w7.heap.size 25 [.int .u64 0, .int .u64 0, .int .u64 0, .slice none 0 0] := Row.new w7 _ _ _ rfl
  go_upto_region 9 with (refine wpList_store_row rfl 25 (.tmp 5) (.tmp 40) rfl w7.heap.size rfl [.int .u64 7, .int .u64 1, .int .u64 300, .slice A7 8 k7] rfl _ _ hR0 (by exact size_pay') rfl (one_four _ _ _ _ rfl rfl rfl rfl) ?_)
  have hRq := hR0.setRow [.int .u64 7, .int .u64 1, .int .u64 300, .slice A7 8 k7]
  have hb2 : Below w7.heap.size w7 ((w7.alloc (.cells #[.int .u64 0, .int .u64 0, .int .u64 0, .slice none 0 0] 25)).setRow w7.heap.size [.int .u64 7, .int .u64 1, .int .u64 300, .slice A7 8 k7].toArray) := below_setRow (below_new (Below.refl _ _) _) (Nat.le_refl _) _
  replace hg := hg.later hb2
  replace hrt := hrt.keep hb2
  replace hr7 := hr7.keep hb2
  replace hRp := hRp.later hb2
  replace hB := below_step hB hb2
  generalize (w7.alloc (.cells #[.int .u64 0, .int .u64 0, .int .u64 0, .slice none 0 0] 25)).setRow w7.heap.size [.int .u64 7, .int .u64 1, .int .u64 300, .slice A7 8 k7].toArray = w8 at hg hrt hr7 hRp hRq hB ⊢
  clear hR0 hb2
  generalize w7.heap.size = gq at hRq ⊢
  go_wp2_with fail
  refine (readB_no [] 2 1 0 none 0 w8 (Lib.hid rfl) Rd.nil (Nat.le_refl _) (by omega) hg (Lib.hid bw_none) (by omega)).mono ?_
  rintro e w9 ⟨A9, k9, g9, rfl, hF, hb⟩
  replace hg := hg.later hb
  replace hrt := hrt.keep hb
  replace hr7 := hr7.keep hb
  replace hRp := hRp.later hb
  replace hRq := hRq.later hb
  replace hB := below_step hB hb
  clear hb
  have hR0 : Row (w9.alloc (.cells #[.int .u64 0, .int .u64 0, .int .u64 0, .slice none 0 0] 25)) w9.heap.size 25 [.int .u64 0, .int .u64 0, .int .u64 0, .slice none 0 0] := Row.new w9 _ _ _ rfl
  go_upto_region 10 with (refine wpList_store_row rfl 25 (.tmp 8) (.tmp 45) rfl w9.heap.size rfl [.int .u64 0, .int .u64 0, .int .u64 0, .slice A9 0 k9] rfl _ _ hR0 (by exact size_pay') rfl (one_four _ _ _ _ rfl rfl rfl rfl) ?_)
  have hb2 : Below w9.heap.size w9 ((w9.alloc (.cells #[.int .u64 0, .int .u64 0, .int .u64 0, .slice none 0 0] 25)).setRow w9.heap.size [.int .u64 0, .int .u64 0, .int .u64 0, .slice A9 0 k9].toArray) := below_setRow (below_new (Below.refl _ _) _) (Nat.le_refl _) _
  replace hg := hg.later hb2
  replace hF := hF.later hb2
  replace hrt := hrt.keep hb2
  replace hr7 := hr7.keep hb2
  replace hRp := hRp.later hb2
  replace hRq := hRq.later hb2
  replace hB := below_step hB hb2
  generalize (w9.alloc (.cells #[.int .u64 0, .int .u64 0, .int .u64 0, .slice none 0 0] 25)).setRow w9.heap.size [.int .u64 0, .int .u64 0, .int .u64 0, .slice A9 0 k9].toArray = w10 at hg hF hrt hr7 hRp hRq hB ⊢
  clear hR0 hb2
  generalize w9.heap.size = gz
  go_wp2_with fail
  refine (told_flt g9 1 2 _ hg hF).mono ?_
  rintro e w11 ⟨rfl, hb⟩
  replace hrt := hrt.keep hb
  replace hr7 := hr7.keep hb
  replace hRp := hRp.later hb
  replace hRq := hRq.later hb
  replace hB := below_step hB hb
  clear hb hF hg
  have cp0 : w11.cell? ⟨w.heap.size + 1, 0, none⟩ = some (.int .u64 7) := hRp.cell rfl
  have cp1 : w11.cell? ⟨w.heap.size + 1, 1, none⟩ = some (.int .u64 1) := hRp.cell rfl
  have cp2 : w11.cell? ⟨w.heap.size + 1, 2, none⟩ = some (.int .u64 300) := hRp.cell rfl
  have cp3 : w11.cell? ⟨w.heap.size + 1, 3, none⟩ = some (.slice (some ⟨w.heap.size, 0, none⟩) 8 8) := hRp.cell rfl
  have cq0 : w11.cell? ⟨gq, 0, none⟩ = some (.int .u64 7) := hRq.cell rfl
  have cq1 : w11.cell? ⟨gq, 1, none⟩ = some (.int .u64 1) := hRq.cell rfl
  have cq2 : w11.cell? ⟨gq, 2, none⟩ = some (.int .u64 300) := hRq.cell rfl
  have cq3 : w11.cell? ⟨gq, 3, none⟩ = some (.slice A7 8 k7) := hRq.cell rfl
  go_wp2_with fail
  refine (refsame_pay 7 1 300 7 1 300 tag8B tag8B 8 8 _ A7 8 k7 _ (Lib.hid rfl) HN7 hrt hr7).mono ?_
  rintro e w12 ⟨rfl, hb⟩
  rw [bw_same]
  replace hB := below_step hB hb
  clear hb cp0 cp1 cp2 cp3 cq0 cq1 cq2 cq3
  go_wp2_with fail
  go_ret
  exact ⟨rfl, hB⟩
end Go.Proofs.YteppocjgodmpdaaDoor
/-
  Counting in how many places two are unlike, place by place. No conditions but those typed.
-/
namespace Go.Proofs.YteppocjgodmpdaaDoor
set_option maxRecDepth 100000
open Go.RowKit
set_option linter.unusedSimpArgs false
set_option linter.unusedVariables false

theorem dif_take (a b : List UInt8) (hl : a.length = b.length) (j : Nat) (h : j < a.length) : difL (a.take (j + 1)) (b.take (j + 1)) = difL (a.take j) (b.take j) + (if co a j = co b j then 0 else 1) := by
  unfold difL
  rw [← List.take_zipWith, ← List.take_zipWith, wt_take _ _ (by rw [List.length_zipWith]; omega), co_zip _ _ _ h (by omega)]
  congr 1
  by_cases e : co a j = co b j
  · rw [if_pos e, if_pos (by rw [e, add_self])]
  · rw [if_neg e, if_neg (fun h0 => e (add_zero_eq h0))]
def CntR (a b : List UInt8) (wb : World) (pv kv : Value) (wr : World) : Prop :=
  ∃ j : Nat, j ≤ a.length ∧ kv = .int .i64 (j : Int) ∧ pv = .int .i64 ((difL (a.take j) (b.take j) : Nat) : Int) ∧ Below wb.heap.size wb wr
theorem cnt_round {X y : List UInt8} {q : Nat} (HY : y.length = X.length) (h255 : X.length ≤ 255) (hq : q < X.length) {wb wr : World} {gs os gy : Nat} (hgs : gs < wb.heap.size)
    (hcs : ∀ i (hi : i < X.length), wb.cell? ⟨gs, os + i, none⟩ = some (vB X[i])) (hry : Rd vB wb (some ⟨gy, 0, none⟩) y) (hb : Below wb.heap.size wb wr) :
    wr.cell? ⟨gs, os + q, none⟩ = some (.int .u8 (X[q].toNat : Int)) ∧ wr.cell? ⟨gy, q, none⟩ = some (.int .u8 ((y[q]'(by rw [HY]; exact hq)).toNat : Int)) ∧
    ((X[q] = y[q]'(by rw [HY]; exact hq) → difL (X.take (q + 1)) (y.take (q + 1)) = difL (X.take q) (y.take q)) ∧
      (X[q] ≠ y[q]'(by rw [HY]; exact hq) → ((difL (X.take q) (y.take q) : Nat) : Int) + 1 = ((difL (X.take (q + 1)) (y.take (q + 1)) : Nat) : Int)) ∧
      difL (X.take (q + 1)) (y.take (q + 1)) ≤ 255 ∧
      ∀ nq, CntR X y wb (.int .i64 ((difL (X.take (q + 1)) (y.take (q + 1)) : Nat) : Int)) (.int .i64 ((q : Int) + 1)) (wr.drewN nq)) := by
  have hqy : q < y.length := by rw [HY]; exact hq
  obtain ⟨gb, ob, e, hgb, hcb⟩ := hry.at (k := q) hqy
  have e1 : gb = gy := by injection e with e; injection e with e _; exact e.symm
  have e2 : ob = 0 := by injection e with e; injection e with _ e; exact e.symm
  subst e1
  subst e2
  have hdt := dif_take X y HY.symm q hq
  rw [co_lt X q hq, co_lt y q hqy] at hdt
  refine ⟨(hb.cell (p := ⟨gs, os + q, none⟩) hgs).trans (hcs q hq), ?_, fun e => ?_, fun e => ?_, ?_, fun nq => ⟨q + 1, hq, by go_num, rfl, below_drewN hb nq⟩⟩
  · have := (hb.cell (p := ⟨gb, 0 + q, none⟩) hgb).trans (hcb q hqy)
    rw [Nat.zero_add] at this
    exact this
  · rw [hdt, if_pos e, Nat.add_zero]
  · rw [hdt, if_neg e]
    omega
  · have := wt_le (List.zipWith addB (X.take (q + 1)) (y.take (q + 1)))
    rw [List.length_zipWith, List.length_take] at this
    unfold difL
    omega
end Go.Proofs.YteppocjgodmpdaaDoor
/-
  The walk of the law BarsMend: a barcode that is spoilt in at most five places is read as it was. Condition: errors.errorType holds the handle of the type error (EtC).
-/
namespace Go.Proofs.YteppocjgodmpdaaDoor
set_option maxRecDepth 100000
open Go.RowKit
set_option linter.unusedSimpArgs false
set_option linter.unusedVariables false

def SpoilR (x : List UInt8) (gy : Nat) (wb : World) (iv : Value) (wr : World) : Prop :=
  ∃ (j : Nat) (y : List UInt8), j ≤ 5 ∧ iv = .int .i64 (j : Int) ∧ y.length = x.length ∧ difL x y ≤ j ∧ Cel wr gy 5 y ∧ Below wb.heap.size wb wr
theorem same_selfB (t e c : Nat) (g : List UInt8) : sameF t e c g t e c g = true := by unfold sameF; simp

set_option maxRecDepth 100000 in
set_option maxHeartbeats 8000000 in
theorem barsmend_core (t e c : Nat) (tag : List UInt8) (n : Nat) (A : Option Addr) (k : Nat) (s b : List UInt8) (ns nb : Nat) (B C : Option Addr) (cs cb : Nat) (w : World)
    (ht : t < 18446744073709551616) (he : e < 18446744073709551616) (hc : c < 18446744073709551616) (HN : Hid (tag.length = n)) (hrt : Rd vB w A tag) (hk : n ≤ k) (hn : n ≤ 300)
    (HS : Hid (s.length = ns)) (HB : Hid (b.length = nb)) (hrs : Rd vB w B s) (hrb : Rd vB w C b) (hg : EtC w) :
    Calls Tryd.prog 3 #[aggP t e c A n k, .slice B ns cs, .slice C nb cb] w fun e₁ w' => e₁ = .returned (.bool true) ∧ Below w.heap.size w w' := by
  obtain ⟨i0, hi, hz0, hz1, hz2⟩ := info_parts info_u8
  have g1 : decide ((300 : Int) < (n : Int)) = false := decide_eq_false (by omega)
  have n1 : ¬ 300 < n := by omega
  obtain ⟨hR0, hB0⟩ := box_pay w 25 (.int .u64 (t : Int)) (.int .u64 (e : Int)) (.int .u64 (c : Int)) (.slice A n k)
  unfold aggP
  go_enter Tryd.func3, Tryd.ntmps3
  go_upto_region 1 with fail
  generalize (w.alloc (.cells #[.int .u64 (t : Int), .int .u64 (e : Int), .int .u64 (c : Int), .slice A n k] 25)) = W0 at hR0 hB0 ⊢
  have HT := Lib.hid (And.intro ht (And.intro he hc))
  clear ht he hc
  replace hrt := hrt.keep hB0
  replace hrs := hrs.keep hB0
  replace hrb := hrb.keep hB0
  replace hg := hg.later hB0
  go_wp2_with fail
  refine (awake13_any _ hg).mono ?_
  rintro e₁ w1 ⟨rfl, hb⟩
  replace hrt := hrt.keep hb
  replace hrs := hrs.keep hb
  replace hrb := hrb.keep hb
  replace hg := hg.later hb
  replace hR0 := hR0.later hb
  replace hB0 := below_step hB0 hb
  clear hb
  have c3 : w1.cell? ⟨w.heap.size, 3, none⟩ = some (.slice A n k) := hR0.cell rfl
  go_upto_region 5 with fail
  clear g1 n1 c3
  by_cases h8 : n = 8
  · subst h8
    go_wp2_with (refine wpList_load_part rfl 25 (.tmp 3) rfl w.heap.size 0 rfl _ _ hR0 (cellsP t e c A 8 k) (by rfl) _ Tryd.underlying25 rfl (by exact size_pay') ?_)
    refine (makeB_ok t e c tag A k _ HT.out.1 HT.out.2.1 HT.out.2.2 HN hrt hk hg).mono ?_
    rintro e₁ w2 ⟨A2, n2, c2, rfl, HN2, hc2, hr2, hb⟩
    replace hrt := hrt.keep hb
    replace hrs := hrs.keep hb
    replace hrb := hrb.keep hb
    replace hg := hg.later hb
    replace hR0 := hR0.later hb
    replace hB0 := below_step hB0 hb
    clear hb
    have hlen := bar_length (t := t) (e := e) (c := c) HN.out
    have HNEAR : Hid (∀ x : List UInt8, x.length = (barL t e c tag).length → difL x (barL t e c tag) ≤ 5 → barsL x = ((0, t, e, c, tag), difL x (barL t e c tag), 0)) := fun x => bars_near HT.out.1 HT.out.2.1 HT.out.2.2 HN.out x
    generalize barL t e c tag = X at HN2 hr2 hlen HNEAR
    have e2 := HN2.out
    subst e2
    clear HN2
    obtain ⟨hx1, hx2⟩ := hlen
    have hX0 : 0 < X.length := by omega
    have hXne : X ≠ [] := List.length_pos_iff.1 hX0
    have hX1 : ((X.length : Int) == 0) = false := beq_eq_false_iff_ne.2 (by omega)
    have hX2 : ¬ (52 : Int) < (X.length : Int) := by omega
    have hX3 : decide ((52 : Int) < (X.length : Int)) = false := decide_eq_false hX2
    have hown0 : (w2.alloc (.cells #[] 5)).ownsRow w2.heap.size 5 1 (.slice (some ⟨w2.heap.size, 0, none⟩) 0 0) 0 [] := World.ownsRow_made w2 #[] 0 (Nat.le_refl _) (by unfold maxLen; omega) rfl
    have hbn := below_new (Below.refl _ w2) (.cells #[] 5)
    have hrX0 := hr2.keep hbn
    go_upto_region 11 with (at_builtin; refine wpList_append_rd _ rfl (.tmp 45) (.tmp 46) 23 rfl w2.heap.size 5 i0 (.int .u8 0) 1 Tryd.underlying23 hi hz0 hz1 hz2 rfl _ _ _ rfl hown0 A2 X c2 rfl hrX0 vB_one (by unfold maxLen; omega) (by omega) (by simp) ?_; intro v4 w4 hown4 hgrow4)
    rw [Nat.zero_add, List.nil_append] at hown4
    have hb4 : Below w2.heap.size w2 w4 := hbn.grown hgrow4 (by simp) (fun k hk => (hown0.lt k hk).1)
    obtain ⟨A4, c4, rfl, hc4⟩ := own_form hown4
    obtain ⟨g4, rfl, hg4, hcel0⟩ := cel_of_own hown4 rfl (by omega)
    clear hown0 hbn hrX0 hgrow4 hown4
    go_wp2_with fail
    go_loopw [10] (fun i wr => SpoilR X g4 w2 i wr) (fun i _ => 5 - (intOf i).toNat)
    case atStart => exact ⟨0, X, by omega, rfl, rfl, by rw [dif_self]; omega, hcel0, hb4⟩
    case round =>
      clear hcel0 hb4
      obtain ⟨j, y, hj5, rfl, hy, hd, hcel, hbr⟩ := hrel
      have j0 : (0 : Int) ≤ (j : Int) := by omega
      obtain ⟨T, hT⟩ : ∃ T, decide (j < ns ∧ j < nb ∧ j < 5) = T := ⟨_, rfl⟩
      have HTT := Lib.hid hT
      clear hT
      go_upto_region 12 with fail
      go_cut [61] (fun v wx => v = .bool T ∧ wr = wx)
      case first =>
        by_cases hj1 : j < ns
        · have k1 : (j : Int) < (ns : Int) := by omega
          by_cases hj2 : j < nb
          · have k2 : (j : Int) < (nb : Int) := by omega
            by_cases hj3 : j < 5
            · have k3 : (j : Int) < 5 := by omega
              have eT : T = true := by rw [← HTT.out]; exact decide_eq_true ⟨hj1, hj2, hj3⟩
              subst eT
              clear HTT
              go_wp2_with fail
              go_meet
              case rel => exact ⟨rfl, rfl⟩
            · have k3 : ¬ (j : Int) < 5 := by omega
              have eT : T = false := by rw [← HTT.out]; exact decide_eq_false (fun h => hj3 h.2.2)
              subst eT
              clear HTT
              go_wp2_with fail
              go_meet
              case rel => exact ⟨rfl, rfl⟩
          · have k2 : ¬ (j : Int) < (nb : Int) := by omega
            have eT : T = false := by rw [← HTT.out]; exact decide_eq_false (fun h => hj2 h.2.1)
            subst eT
            clear HTT
            go_wp2_with fail
            go_meet
            case rel => exact ⟨rfl, rfl⟩
        · have k1 : ¬ (j : Int) < (ns : Int) := by omega
          have eT : T = false := by rw [← HTT.out]; exact decide_eq_false (fun h => hj1 h.1)
          subst eT
          clear HTT
          go_wp2_with fail
          go_meet
          case rel => exact ⟨rfl, rfl⟩
      obtain ⟨rfl, rfl⟩ := hcut
      cases T with
      | true =>
        obtain ⟨hj1, hj2, hj3⟩ := of_decide_eq_true HTT.out
        have hjs : j < s.length := by rw [HS.out]; exact hj1
        have hjb : j < b.length := by rw [HB.out]; exact hj2
        obtain ⟨gs, os, rfl, hgs, hcs'⟩ := hrs.at hjs
        obtain ⟨gb, ob, rfl, hgb, hcb'⟩ := hrb.at hjb
        have j1 : (j : Int) < (ns : Int) := by omega
        have j2 : (j : Int) < (nb : Int) := by omega
        have hc1 : wr.cell? ⟨gs, os + j, none⟩ = some (.int .u8 (s[j].toNat : Int)) := (hbr.cell (p := ⟨gs, os + j, none⟩) hgs).trans (hcs' j hjs)
        have hc2' : wr.cell? ⟨gb, ob + j, none⟩ = some (.int .u8 (b[j].toNat : Int)) := (hbr.cell (p := ⟨gb, ob + j, none⟩) hgb).trans (hcb' j hjb)
        have htl := s[j].toNat_lt
        generalize s[j].toNat = q0 at hc1 htl
        generalize b[j] = z at hc2'
        obtain ⟨q, hq⟩ : ∃ q, q = q0 % X.length := ⟨_, rfl⟩
        have hqX : q < X.length := by rw [hq]; exact Nat.mod_lt _ hX0
        have hcq : wr.cell? ⟨g4, q, none⟩ = some (.int .u8 ((co y q).toNat : Int)) := hcel.get q (by omega)
        have hfq : wr.frozen? ⟨g4, q, none⟩ = false := hcel.frozen q
        have hx := u8_xor_b (co y q) z
        have hcs2 := hcel.drew.set q (xorB (co y q) z)
        have hd2 := dif_set X y q (xorB (co y q) z)
        generalize xorB (co y q) z = u at hx hcs2 hd2
        generalize co y q = v at hcq hx
        have m1 : (q0 : Int) % (X.length : Int) = (q : Int) := by rw [hq]; omega
        have m2 : (q0 : Int).tmod (X.length : Int) = (q : Int) := by rw [Int.tmod_eq_emod_of_nonneg (by omega)]; exact m1
        have m3 : (0 : Int) ≤ (q : Int) := by omega
        have m4 : (q : Int) < (X.length : Int) := by omega
        have m5 : IntKind.i64.wrap (q0 : Int) = (q0 : Int) := by rw [IntKind.wrap_i64]; omega
        have HREL : Hid (SpoilR X g4 w2 (.int .i64 ((j : Int) + 1)) (wr.drew.setCell ⟨g4, q, none⟩ (.int .u8 (u.toNat : Int)))) :=
          ⟨j + 1, y.set q u, by omega, by go_num, by rw [List.length_set]; exact hy, by omega, hcs2, (hbr.drew).setCell (p := ⟨g4, q, none⟩) hg4 _⟩
        clear hcs2 hd2 hd hcel hbr hcs' hcb' hq hj1 hj2 HTT
        go_upto_region 14 with fail
        refine wp_region_still_tail 17 (by kernel_rfl) (by kernel_rfl) ?_
        simp only [List.take_succ_cons, List.take_zero, List.drop_succ_cons, List.drop_zero]
        repeat still_step
        try refine wpStill_nil ?_
        change wpList _ _ _ _ _ wr.drew
        go_wp2_with fail
        go_roundw
        case rel => exact HREL.out
        case measure => simp [intOf] <;> omega
      | false =>
        have hry := hcel.rd
        replace hr2 := hr2.keep hbr
        replace hrt := hrt.keep hbr
        replace hg := hg.later hbr
        replace hR0 := hR0.later hbr
        replace hB0 := below_step hB0 hbr
        have HY : Hid (y.length = X.length) := hy
        have HYR := Lib.hid (HNEAR.out y hy (by rw [dif_comm]; omega))
        clear hcel hrs hrb hbr HTT HNEAR
        go_upto_region 16 with fail
        go_wp2_with fail
        go_loopw [11, 12] (fun p i wr' => CntR X y wr p i wr') (fun _ i _ => X.length - (intOf i).toNat)
        case atStart => exact ⟨0, Nat.zero_le _, rfl, rfl, Below.refl _ _⟩
        case round =>
          obtain ⟨q, hq, rfl, rfl, hbq⟩ := hrel
          by_cases hql : q < X.length
          · have k1 : (q : Int) < (X.length : Int) := by omega
            have k0 : (0 : Int) ≤ (q : Int) := by omega
            obtain ⟨gs, os, rfl, hgs, hcs'⟩ := hr2.at hql
            obtain ⟨hc1, hc2', HR⟩ := cnt_round HY.out (by omega) hql hgs hcs' hry hbq
            generalize X[q] = x at hc1 HR
            generalize y[q]'(by rw [HY.out]; exact hql) = z at hc2' HR
            generalize difL (X.take (q + 1)) (y.take (q + 1)) = P1 at HR
            generalize difL (X.take q) (y.take q) = P0 at HR ⊢
            have HRR := Lib.hid HR
            clear HR hcs' hgs hry hbq hr2
            by_cases exy : x = z
            · subst exy
              have hP := HRR.out.1 rfl
              subst hP
              have HR3 := Lib.hid HRR.out.2.2.2
              clear HRR
              go_upto_region 19 with fail
              go_quiet (fail)
              go_wp2_with fail
              go_roundw
              case rel => exact HR3.out _
              case measure => simp [intOf] <;> omega
            · have hne : ((x.toNat : Int) != (z.toNat : Int)) = true := bne_iff_ne.2 (fun e => exy (UInt8.toNat_inj.1 (by omega)))
              have hP := HRR.out.2.1 exy
              have hP1 := HRR.out.2.2.1
              have HR3 := Lib.hid HRR.out.2.2.2
              clear HRR
              go_upto_region 19 with fail
              go_quiet (fail)
              go_wp2_with fail
              go_roundw
              case rel => exact HR3.out _
              case measure => simp [intOf] <;> omega
          · have eq : q = X.length := by omega
            subst eq
            have k1 : ¬ (X.length : Int) < (X.length : Int) := by omega
            obtain ⟨D, hD⟩ : ∃ D, difL X y = D := ⟨_, rfl⟩
            have hDD : difL (X.take X.length) (y.take X.length) = D := by rw [List.take_length, ← HY.out, List.take_length]; exact hD
            rw [hDD]
            have HYD := HYR.out
            rw [dif_comm, hD] at HYD
            replace HYD := Lib.hid HYD
            replace hry := hry.keep hbq
            replace hrt := hrt.keep hbq
            replace hg := hg.later hbq
            replace hR0 := hR0.later hbq
            replace hB0 := below_step hB0 hbq
            clear hbq hDD hD HYR hr2
            go_upto_region 21 with fail
            go_wp2_with fail
            refine (readB_ok y t e c tag D X.length _ c4 _ HY hry hc4 (by omega) hg HYD).mono ?_
            rintro e₁ w7 ⟨A7, m7, k7, rfl, HN7, hk7, hr7, hb⟩
            have em7 : m7 = 8 := HN7.out.symm.trans HN.out
            subst em7
            replace hrt := hrt.keep hb
            replace hR0 := hR0.later hb
            replace hB0 := below_step hB0 hb
            clear hb hry hg
            have hRn : Row (w7.alloc (.cells #[.int .u64 0, .int .u64 0, .int .u64 0, .slice none 0 0] 25)) w7.heap.size 25 [.int .u64 0, .int .u64 0, .int .u64 0, .slice none 0 0] := Row.new w7 _ _ _ rfl
            go_upto_region 22 with (refine wpList_store_row rfl 25 (.tmp 13) (.tmp 101) rfl w7.heap.size rfl [.int .u64 (t : Int), .int .u64 (e : Int), .int .u64 (c : Int), .slice A7 8 k7] rfl _ _ hRn (by exact size_pay') rfl (one_four _ _ _ _ rfl rfl rfl rfl) ?_)
            have hRq := hRn.setRow [.int .u64 (t : Int), .int .u64 (e : Int), .int .u64 (c : Int), .slice A7 8 k7]
            have hb2 : Below w7.heap.size w7 ((w7.alloc (.cells #[.int .u64 0, .int .u64 0, .int .u64 0, .slice none 0 0] 25)).setRow w7.heap.size [.int .u64 (t : Int), .int .u64 (e : Int), .int .u64 (c : Int), .slice A7 8 k7].toArray) := below_setRow (below_new (Below.refl _ _) _) (Nat.le_refl _) _
            replace hrt := hrt.keep hb2
            replace hr7 := hr7.keep hb2
            replace hR0 := hR0.later hb2
            replace hB0 := below_step hB0 hb2
            generalize (w7.alloc (.cells #[.int .u64 0, .int .u64 0, .int .u64 0, .slice none 0 0] 25)).setRow w7.heap.size [.int .u64 (t : Int), .int .u64 (e : Int), .int .u64 (c : Int), .slice A7 8 k7].toArray = w8 at hrt hr7 hR0 hRq hB0 ⊢
            clear hRn hb2
            generalize w7.heap.size = gq at hRq ⊢
            have cp0 : w8.cell? ⟨w.heap.size, 0, none⟩ = some (.int .u64 (t : Int)) := hR0.cell rfl
            have cp1 : w8.cell? ⟨w.heap.size, 1, none⟩ = some (.int .u64 (e : Int)) := hR0.cell rfl
            have cp2 : w8.cell? ⟨w.heap.size, 2, none⟩ = some (.int .u64 (c : Int)) := hR0.cell rfl
            have cp3 : w8.cell? ⟨w.heap.size, 3, none⟩ = some (.slice A 8 k) := hR0.cell rfl
            have cq0 : w8.cell? ⟨gq, 0, none⟩ = some (.int .u64 (t : Int)) := hRq.cell rfl
            have cq1 : w8.cell? ⟨gq, 1, none⟩ = some (.int .u64 (e : Int)) := hRq.cell rfl
            have cq2 : w8.cell? ⟨gq, 2, none⟩ = some (.int .u64 (c : Int)) := hRq.cell rfl
            have cq3 : w8.cell? ⟨gq, 3, none⟩ = some (.slice A7 8 k7) := hRq.cell rfl
            go_wp2_with fail
            refine (refsame_pay t e c t e c tag tag 8 8 A A7 k k7 _ HN HN7 hrt hr7).mono ?_
            rintro e₁ w9 ⟨rfl, hb⟩
            rw [same_selfB]
            replace hB0 := below_step hB0 hb
            clear hb cp0 cp1 cp2 cp3 cq0 cq1 cq2 cq3
            go_wp2_with fail
            go_ret
            exact ⟨rfl, hB0⟩
  · go_wp2_with (refine wpList_load_part rfl 25 (.tmp 3) rfl w.heap.size 0 rfl _ _ hR0 (cellsP t e c A n k) (by rfl) _ Tryd.underlying25 rfl (by exact size_pay') ?_)
    refine (makeB_no t e c tag n A k _ HT.out.1 HT.out.2.1 HT.out.2.2 HN hrt hk (by omega) h8 hg).mono ?_
    rintro e₁ w2 ⟨g, rfl, hF, hb⟩
    replace hrt := hrt.keep hb
    replace hR0 := hR0.later hb
    replace hB0 := below_step hB0 hb
    clear hb hF hg
    go_upto_region 7 with fail
    go_wp2_with (refine wpList_load_part rfl 25 (.tmp 3) rfl w.heap.size 0 rfl _ _ hR0 (cellsP t e c A n k) (by rfl) _ Tryd.underlying25 rfl (by exact size_pay') ?_)
    refine (rightP_any t e c tag n A k _ HN hrt hk (by omega)).mono ?_
    rw [show decide (n = 8) = false from decide_eq_false h8]
    rintro e₁ w8 ⟨rfl, hb⟩
    replace hB0 := below_step hB0 hb
    clear hb
    go_wp2_with fail
    go_ret
    exact ⟨rfl, hB0⟩
end Go.Proofs.YteppocjgodmpdaaDoor
/-
  What comes in, opened by its type's shape (no program is named here): numbers, slices of whatever, arrays, structs. No conditions but those typed.
-/
namespace Go.Proofs.YteppocjgodmpdaaDoor
set_option maxRecDepth 100000
open Go.RowKit Go.Deep Go.WideShapes Go.ChangeShapes

/-- Cells of type t that can be read as data are a reading R of something. -/
def Opens (P : Program) (t : TypeId) {α : Type} (R : World → List Value → α → Prop) : Prop :=
  ∀ {H : Type} (enc : TypeId × Value → H) (w : World) (base : Nat) (spare : Nat → Bool) (held : Bool) (fuel : Nat) (cs : List Value) (x : DataW H × List MemPlace), DataW.trod enc P w base spare held fuel t cs = some x → ∃ a : α, R w cs a

def RByte : World → List Value → UInt8 → Prop := fun _ cs c => cs = [vB c]
def RWord : World → List Value → UInt32 → Prop := fun _ cs c => cs = [vW c]
def RNum : World → List Value → Nat → Prop := fun _ cs v => cs = [.int .u64 (v : Int)] ∧ v < 18446744073709551616
def RInt : World → List Value → Int → Prop := fun _ cs n => cs = [.int .i64 n] ∧ -9223372036854775808 ≤ n ∧ n ≤ 9223372036854775807
def RBool : World → List Value → Bool → Prop := fun _ cs b => cs = [.bool b]

section
variable {P : Program} {t e : TypeId}
theorem opens_byte (ht : P.underlying t = some (.int .u8)) : Opens P t RByte := fun enc w base spare held fuel cs x h => by
  obtain ⟨n, rfl, _, hw⟩ := DataW.trod_int ht h
  simp [Lit.wf, IntKind.min, IntKind.max, IntKind.signed, IntKind.bits] at hw
  refine ⟨UInt8.ofNat n.toNat, ?_⟩
  unfold RByte vB
  rw [UInt8.toNat_ofNat']
  congr 2
  omega
theorem opens_word (ht : P.underlying t = some (.int .u32)) : Opens P t RWord := fun enc w base spare held fuel cs x h => by
  obtain ⟨n, rfl, _, hw⟩ := DataW.trod_int ht h
  simp [Lit.wf, IntKind.min, IntKind.max, IntKind.signed, IntKind.bits] at hw
  refine ⟨UInt32.ofNat n.toNat, ?_⟩
  unfold RWord vW
  rw [UInt32.toNat_ofNat']
  congr 2
  omega
theorem opens_num (ht : P.underlying t = some (.int .u64)) : Opens P t RNum := fun enc w base spare held fuel cs x h => by
  obtain ⟨n, rfl, _, hw⟩ := DataW.trod_int ht h
  obtain ⟨v, hv, rfl⟩ := u64_of_wf hw
  exact ⟨v, rfl, hv⟩
theorem opens_int (ht : P.underlying t = some (.int .i64)) : Opens P t RInt := fun enc w base spare held fuel cs x h => by
  obtain ⟨n, rfl, _, hw⟩ := DataW.trod_int ht h
  exact ⟨n, rfl, i64_of_wf hw⟩

/-- A slice: its elements, of m cells each, lie one behind the other. -/
def RSlice (m : Nat) {α : Type} (R : World → List Value → α → Prop) : World → List Value → List α → Prop := fun w cs l =>
  ∃ (A : Option Addr) (cap : Nat), cs = [.slice A l.length cap] ∧ l.length ≤ cap ∧ cap ≤ 9223372036854775807 ∧
    (l ≠ [] → ∃ b o, A = some ⟨b, o, none⟩ ∧ ∀ i (h : i < l.length), ∃ ecs : List Value, ecs.length = m ∧ (∀ j (hj : j < ecs.length), w.cell? ⟨b, o + i * m + j, none⟩ = some ecs[j]) ∧ R w ecs l[i])

theorem cells_at {w : World} {base : Nat} {a : Addr} {n : Nat} {cs : List Value} (h : w.cells? base a n = some cs) : cs.length = n ∧ ∀ j (hj : j < cs.length), w.cell? (a.add j) = some cs[j] := by
  obtain ⟨_, hl, hc⟩ := World.cells?_some h
  refine ⟨hl, fun j hj => ?_⟩
  have := hc j (by omega)
  rw [this]
  exact List.getElem?_eq_getElem hj

theorem choose_list {α : Type} (n : Nat) (p : Nat → α → Prop) (h : ∀ i, i < n → ∃ a, p i a) : ∃ l : List α, l.length = n ∧ ∀ i (hi : i < l.length), p i l[i] := by
  induction n with
  | zero => exact ⟨[], rfl, fun i hi => by simp at hi⟩
  | succ n ih =>
    obtain ⟨l, hl, hp⟩ := ih (fun i hi => h i (by omega))
    obtain ⟨a, ha⟩ := h n (by omega)
    refine ⟨l ++ [a], by simp [hl], fun i hi => ?_⟩
    by_cases hin : i < l.length
    · rw [List.getElem_append_left hin]; exact hp i hin
    · have : i = n := by simp at hi; omega
      subst this
      rw [List.getElem_append_right (by omega)]
      simpa [hl] using ha

theorem opens_slice {α : Type} {R : World → List Value → α → Prop} {m : Nat} (ht : P.underlying t = some (.slice e)) (hc : P.cellsOf e = m) (hm : 0 < m) (he : Opens P e R) : Opens P t (RSlice m R) := fun enc w base spare held fuel cs x h => by
  rcases open_slice ht h with ⟨rfl, _⟩ | ⟨a, len, cap, mm, n, D, Pl, rfl, hb, hl, hcap, hmm, rfl, hx⟩
  · exact ⟨[], none, 0, rfl, Nat.le_refl _, by omega, fun h => absurd rfl h⟩
  · have hlm : len ≤ mm := by rw [hmm]; split <;> omega
    unfold maxLen at hcap
    obtain ⟨l, hll, hp⟩ := choose_list len (fun i (y : α) => ∃ ecs : List Value, ecs.length = m ∧ (∀ j (hj : j < ecs.length), w.cell? ((a.add (i * m)).add j) = some ecs[j]) ∧ R w ecs y) (fun i hi => by
      obtain ⟨ecs, h1, h2⟩ := hx i (by omega)
      rw [hc] at h1
      obtain ⟨h3, h4⟩ := cells_at h1
      obtain ⟨y, hy⟩ := he enc w base spare held n ecs _ h2
      exact ⟨y, ecs, h3, h4, hy⟩)
    refine ⟨l, some a, cap, by rw [hll], by omega, by omega, fun hn => ?_⟩
    have h0 : 0 < l.length := by
      rcases Nat.eq_zero_or_pos l.length with h | h
      · exact absurd (List.eq_nil_of_length_eq_zero h) hn
      · exact h
    obtain ⟨b, o, spot⟩ := a
    obtain ⟨ecs, h3, h4, _⟩ := hp 0 h0
    have hc0 := h4 0 (by omega)
    have hspot : spot = none := by simpa [Addr.add] using World.cell?_spot hc0
    subst hspot
    have hadd : ∀ i j, ((⟨b, o, none⟩ : Addr).add i).add j = ⟨b, o + i + j, none⟩ := fun i j => by unfold Addr.add; split <;> split <;> simp_all
    refine ⟨b, o, rfl, fun i hi => ?_⟩
    obtain ⟨ecs, h3, h4, h5⟩ := hp i hi
    exact ⟨ecs, h3, fun j hj => by rw [← hadd]; exact h4 j hj, h5⟩

/-- An array: its elements' cells one behind the other (elements of one cell). -/
def RArr (n : Nat) {α : Type} (R : World → List Value → α → Prop) : World → List Value → List α → Prop := fun w cs l => l.length = n ∧ cs.length = n ∧ ∀ i (h : i < l.length), R w ((cs.drop i).take 1) l[i]
theorem opens_arr {α : Type} {R : World → List Value → α → Prop} {n : Nat} (ht : P.underlying t = some (.array n e)) (hc : P.cellsOf e = 1) (hn : P.cellsOf t = n) (he : Opens P e R) : Opens P t (RArr n R) := fun enc w base spare held fuel cs x h => by
  obtain ⟨xs, m, _, _, hl, hxl, hx⟩ := DataW.trod_array ht h
  obtain ⟨l, hll, hp⟩ := choose_list n (fun i (y : α) => R w ((cs.drop i).take 1) y) (fun i hi => by
    have := hx i hi
    rw [hc, Nat.mul_one, List.getElem?_eq_getElem (by omega)] at this
    exact he enc w base spare held m _ _ this)
  exact ⟨l, hll, by omega, hp⟩

/-- Structs of two to four fields: each field's cells. -/
def RTwo (a0 n0 a1 n1 : Nat) {α β : Type} (R : World → List Value → α → Prop) (S : World → List Value → β → Prop) : World → List Value → α × β → Prop := fun w cs x => cs.length = n0 + n1 ∧ R w ((cs.drop a0).take n0) x.1 ∧ S w ((cs.drop a1).take n1) x.2
def RThree (a0 n0 a1 n1 a2 n2 : Nat) {α β γ : Type} (R : World → List Value → α → Prop) (S : World → List Value → β → Prop) (T : World → List Value → γ → Prop) : World → List Value → α × β × γ → Prop := fun w cs x => cs.length = n0 + n1 + n2 ∧ R w ((cs.drop a0).take n0) x.1 ∧ S w ((cs.drop a1).take n1) x.2.1 ∧ T w ((cs.drop a2).take n2) x.2.2
theorem opens_two {α β : Type} {R : World → List Value → α → Prop} {S : World → List Value → β → Prop} {f0 f1 : Field} {a0 n0 a1 n1 : Nat} (ht : P.underlying t = some (.struct #[f0, f1])) (e0 : f0.offset = a0) (e1 : f1.offset = a1) (c0 : P.cellsOf f0.type = n0) (c1 : P.cellsOf f1.type = n1) (hn : P.cellsOf t = n0 + n1)
    (h0 : Opens P f0.type R) (h1 : Opens P f1.type S) : Opens P t (RTwo a0 n0 a1 n1 R S) := fun enc w base spare held fuel cs x h => by
  obtain ⟨xs, n, _, _, hl, hxl, hx⟩ := DataW.trod_struct ht h
  have k0 := hx 0 f0 rfl
  have k1 := hx 1 f1 rfl
  simp only [List.size_toArray, List.length_cons, List.length_nil, Nat.zero_add, Nat.reduceAdd] at hxl
  rw [List.getElem?_eq_getElem (by omega), e0, c0] at k0
  rw [List.getElem?_eq_getElem (by omega), e1, c1] at k1
  obtain ⟨x0, r0⟩ := h0 enc w base spare held n _ _ k0
  obtain ⟨x1, r1⟩ := h1 enc w base spare held n _ _ k1
  exact ⟨(x0, x1), by omega, r0, r1⟩
theorem opens_three {α β γ : Type} {R : World → List Value → α → Prop} {S : World → List Value → β → Prop} {T : World → List Value → γ → Prop} {f0 f1 f2 : Field} {a0 n0 a1 n1 a2 n2 : Nat} (ht : P.underlying t = some (.struct #[f0, f1, f2])) (e0 : f0.offset = a0) (e1 : f1.offset = a1) (e2 : f2.offset = a2)
    (c0 : P.cellsOf f0.type = n0) (c1 : P.cellsOf f1.type = n1) (c2 : P.cellsOf f2.type = n2) (hn : P.cellsOf t = n0 + n1 + n2) (h0 : Opens P f0.type R) (h1 : Opens P f1.type S) (h2 : Opens P f2.type T) : Opens P t (RThree a0 n0 a1 n1 a2 n2 R S T) := fun enc w base spare held fuel cs x h => by
  obtain ⟨xs, n, _, _, hl, hxl, hx⟩ := DataW.trod_struct ht h
  have k0 := hx 0 f0 rfl
  have k1 := hx 1 f1 rfl
  have k2 := hx 2 f2 rfl
  simp only [List.size_toArray, List.length_cons, List.length_nil, Nat.zero_add, Nat.reduceAdd] at hxl
  rw [List.getElem?_eq_getElem (by omega), e0, c0] at k0
  rw [List.getElem?_eq_getElem (by omega), e1, c1] at k1
  rw [List.getElem?_eq_getElem (by omega), e2, c2] at k2
  obtain ⟨x0, r0⟩ := h0 enc w base spare held n _ _ k0
  obtain ⟨x1, r1⟩ := h1 enc w base spare held n _ _ k1
  obtain ⟨x2, r2⟩ := h2 enc w base spare held n _ _ k2
  exact ⟨(x0, x1, x2), by omega, r0, r1, r2⟩
end

/-! ### Back to the words that the walks go by -/
theorem rd_of_rslice {α : Type} {f : α → Value} {R : World → List Value → α → Prop} {w : World} {cs : List Value} {l : List α} (hR : ∀ ecs x, R w ecs x → ecs = [f x]) (h : RSlice 1 R w cs l) : ∃ A cap, cs = [.slice A l.length cap] ∧ l.length ≤ cap ∧ cap ≤ 9223372036854775807 ∧ Rd f w A l := by
  obtain ⟨A, cap, e, h1, h2, h3⟩ := h
  refine ⟨A, cap, e, h1, h2, fun hn => ?_⟩
  obtain ⟨b, o, rfl, hc⟩ := h3 hn
  refine ⟨b, o, rfl, fun i hi => ?_⟩
  obtain ⟨ecs, _, h5, h6⟩ := hc i hi
  have := hR _ _ h6
  subst this
  have := h5 0 (by simp)
  simpa using this
theorem bytes_of_r {w : World} {cs : List Value} {l : List UInt8} (h : RSlice 1 RByte w cs l) : ∃ A cap, cs = [.slice A l.length cap] ∧ l.length ≤ cap ∧ cap ≤ 9223372036854775807 ∧ Rd vB w A l := rd_of_rslice (fun _ _ h => h) h
theorem words_of_r {w : World} {cs : List Value} {l : List UInt32} (h : RSlice 1 RWord w cs l) : ∃ A cap, cs = [.slice A l.length cap] ∧ l.length ≤ cap ∧ cap ≤ 9223372036854775807 ∧ Rd vW w A l := rd_of_rslice (fun _ _ h => h) h
theorem arr_words {n : Nat} {w : World} {cs : List Value} {l : List UInt32} (h : RArr n RWord w cs l) : cs = l.map vW ∧ l.length = n := by
  obtain ⟨h1, h2, h3⟩ := h
  refine ⟨?_, h1⟩
  apply List.ext_getElem
  · simp; omega
  · intro i hi hi'
    have := h3 i (by omega)
    unfold RWord at this
    have h4 := congrArg (fun l => l[0]?) this
    simp only [List.getElem?_take, List.getElem?_drop, Nat.add_zero, List.getElem?_eq_getElem hi, Nat.zero_lt_one, if_true, List.getElem?_cons_zero, Option.some.injEq] at h4
    rw [h4]
    simp

/-! ### A value and its cells -/
theorem okWide_arr {P : Program} {w : World} {r : Reach} {base n : Nat} {t e : TypeId} {v : Value} (ht : P.underlying t = some (.array n e)) (h : Value.okWide P w r base t v) : ∃ cs, v = .agg cs ∧ cs.size = P.cellsOf t := by
  simp only [Value.okWide, ht] at h
  obtain ⟨cs, h1, h2, _⟩ := h
  exact ⟨cs, h1, h2⟩

end Go.Proofs.YteppocjgodmpdaaDoor
