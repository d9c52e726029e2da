/-
  The walk of the law MendBack: data with its checks, spoilt in few places, is mended as it was. No conditions.
-/
import Derived.Test.YtankddeolpickaaMendAwake
import Derived.Test.YtankddeolpickaaMendCnt
import Derived.StillTailTactics
import Derived.BigQuiet
namespace Go.Proofs.Ytankddeolpickaa
set_option maxRecDepth 100000
open Go.RowKit
set_option linter.unusedSimpArgs false
set_option linter.unusedVariables false

theorem mendS_back (x y : List UInt8) (k : Nat) (h1 : 1 ≤ k) (h2 : k ≤ 64) (h3 : k ≤ x.length) (h4 : x.length ≤ 255) (hl : y.length = x.length) (hx : fineP x k) :
    (difL x y ≤ k / 2 ∧ mendS y k = (x, difL x y, 0)) ∨ (k / 2 < difL x y ∧ mendS y k = ([], 0, 6)) ∨
    (k / 2 < difL x y ∧ ∃ a D, a.length = x.length ∧ mendS y k = (a, D, 0) ∧ D ≤ k / 2 ∧ a ≠ x ∧ fineS a (k : Int) = true) := by
  have hE : errS y.length k = 0 := by unfold errS; rw [if_neg (by omega), if_neg (by omega), if_neg (by omega)]
  by_cases hd : difL x y ≤ k / 2
  · refine .inl ⟨hd, ?_⟩
    rw [mendS_near hE (by omega) ⟨hl.symm, hx, by rw [dif_comm]; exact hd⟩, dif_comm]
  · by_cases h : ∃ a, Near y k a
    · obtain ⟨a, ha⟩ := h
      refine .inr (.inr ⟨by omega, a, difL y a, by rw [ha.1, hl], mendS_near hE (by omega) ha, ha.2.2, ?_, ?_⟩)
      · rintro rfl
        have := ha.2.2
        rw [dif_comm] at this
        exact hd this
      · exact (fineS_iff a k h1 h2 (by rw [ha.1]; omega) (by rw [ha.1]; omega)).2 ha.2.1
    · exact .inr (.inl ⟨by omega, mendS_many hE (fun a ha => h ⟨a, ha⟩)⟩)
theorem strS0 (n : Nat) {w : World} {A : Option Addr} {l : List UInt8} {c : Nat} (H : Hid (l.length = n)) (h : Rd vB w A l) : (convert 22 9 (.slice A n c)).run Try.prog w = .ok (.string (strL l)) w := strS n H h w (Below.refl _ _)
def TurnR (x : List UInt8) (gy : Nat) (wb : World) (iv : Value) (wr : World) : Prop :=
  ∃ (j : Nat) (y : List UInt8), iv = .int .i64 (j : Int) ∧ y.length = x.length ∧ Cel wr gy 5 y ∧ Below wb.heap.size wb wr

set_option maxRecDepth 100000 in
set_option maxHeartbeats 4000000 in
theorem mendback_core (d : List UInt8) (m : UInt8) (s b : List UInt8) (len ns nb : Nat) (A B C : Option Addr) (c cs cb : Nat) (w : World) (HN : Hid (d.length = len)) (HS : Hid (s.length = ns)) (HB : Hid (b.length = nb)) (hr : Rd vB w A d) (hrs : Rd vB w B s) (hrb : Rd vB w C b) (hc : len ≤ c) (hcs : ns ≤ cs) (hcb : nb ≤ cb) (hns63 : ns ≤ 9223372036854775807) :
    Calls Try.prog 4 #[.slice A len c, .int .u8 (m.toNat : Int), .slice B ns cs, .slice C nb cb] w fun e w' => e = .returned (.bool true) ∧ Below w.heap.size w w' := by
  obtain ⟨i0, hi, hz0, hz1, hz2⟩ := info_parts info_u8
  obtain ⟨k, hk⟩ : ∃ k : Nat, k = m.toNat % 64 + 1 := ⟨_, rfl⟩
  have h1 : 1 ≤ k := by omega
  have h2 : k ≤ 64 := by omega
  have hm : m.toNat < 256 := m.toNat_lt
  have hki : (m.toNat : Int) % 64 + 1 = (k : Int) := by omega
  have hwm : IntKind.i64.wrap (m.toNat : Int) = (m.toNat : Int) := by rw [IntKind.wrap_i64]; omega
  have hwk : IntKind.i64.wrap (k : Int) = (k : Int) := by rw [IntKind.wrap_i64]; omega
  generalize m.toNat = mm at hk hki hwm hm ⊢
  have HK := Lib.hid hk
  clear hk
  go_enter Try.func4, Try.ntmps4
  go_wp2_with fail
  refine (awake10_any _).mono ?_
  rintro e w1 ⟨rfl, hB⟩
  replace hr := hr.keep hB
  replace hrs := hrs.keep hB
  replace hrb := hrb.keep hB
  by_cases hlen : 255 - (k : Int) < (len : Int)
  · go_wp2_with fail
    go_ret
    exact ⟨rfl, hB⟩
  · go_wp2_with fail
    refine (putS_ok d len k A c _ HN hr hc h1 h2 (by omega)).mono ?_
    rintro e w2 ⟨A2, n2, c2, rfl, HN2, hc2, hr2, hb2⟩
    have hpl := putS_length d k h1
    have hn2 : n2 = len + k := by rw [← HN2.out, hpl, HN.out]
    have hfp := putS_fine d k h1
    generalize putS d k = X at HN2 hr2 hfp
    have HFP := Lib.hid hfp
    have hn255 : n2 ≤ 255 := by omega
    have hkn : k ≤ n2 := by omega
    replace hr := hr.keep hb2
    replace hrs := hrs.keep hb2
    replace hrb := hrb.keep hb2
    replace hB := below_step hB hb2
    clear hb2 hfp hpl hn2 hki
    have e2 := HN2.out
    subst e2
    clear HN2
    have hX0 : 0 < X.length := by omega
    have hXne : X ≠ [] := List.length_pos_iff.1 hX0
    have hX1 : ((X.length : Int) == 0) = false := beq_eq_false_iff_ne.2 (by omega)
    have hown0 : (w2.alloc (.cells #[] 5)).ownsRow w2.heap.size 5 1 (.slice (some ⟨w2.heap.size, 0, none⟩) 0 0) 0 [] := World.ownsRow_made w2 #[] 0 (Nat.le_refl _) (by unfold maxLen; omega) rfl
    have hB0 := below_new (Below.refl _ w2) (.cells #[] 5)
    have hrX0 := hr2.keep hB0
    go_wp2_with (at_builtin; refine wpList_append_rd _ rfl (.tmp 43) (.tmp 44) 22 rfl w2.heap.size 5 i0 (.int .u8 0) 1 Try.underlying22 hi hz0 hz1 hz2 rfl _ _ _ rfl hown0 A2 X c2 rfl hrX0 vB_one (by unfold maxLen; omega) (by omega) (by simp) ?_; intro v4 w4 hown4 hgrow4)
    rw [Nat.zero_add, List.nil_append] at hown4
    have hb4 : Below w2.heap.size w2 w4 := hB0.grown hgrow4 (by simp) (fun k hk => (hown0.lt k hk).1)
    obtain ⟨A4, c4, rfl, hc4⟩ := own_form hown4
    obtain ⟨g4, rfl, hg4, hcel0⟩ := cel_of_own hown4 rfl (by omega)
    clear hown0 hB0 hrX0 hgrow4 hown4
    go_loopw [13] (fun i wr => TurnR X g4 w2 i wr) (fun i _ => ns - (intOf i).toNat)
    case atStart => exact ⟨0, X, rfl, rfl, hcel0, hb4⟩
    case round =>
      clear hcel0 hb4
      obtain ⟨j, y, rfl, hy, hcel, hbr⟩ := hrel
      by_cases hj1 : j < ns
      · by_cases hj2 : j < nb
        · skip
          have j1 : (j : Int) < (ns : Int) := by omega
          have j2 : (j : Int) < (nb : Int) := by omega
          have j0 : (0 : Int) ≤ (j : Int) := by omega
          have hjs : j < s.length := by rw [HS.out]; exact hj1
          have hjb : j < b.length := by rw [HB.out]; exact hj2
          obtain ⟨gs, os, rfl, hgs, hcs'⟩ := hrs.at hjs
          obtain ⟨gb, ob, rfl, hgb, hcb'⟩ := hrb.at hjb
          have hc1 : wr.cell? ⟨gs, os + j, none⟩ = some (.int .u8 (s[j].toNat : Int)) := (hbr.cell (p := ⟨gs, os + j, none⟩) hgs).trans (hcs' j hjs)
          have hc2' : wr.cell? ⟨gb, ob + j, none⟩ = some (.int .u8 (b[j].toNat : Int)) := (hbr.cell (p := ⟨gb, ob + j, none⟩) hgb).trans (hcb' j hjb)
          have ht := s[j].toNat_lt
          generalize s[j].toNat = t at hc1 ht
          generalize b[j] = z at hc2'
          obtain ⟨q, hq⟩ : ∃ q, q = t % X.length := ⟨_, rfl⟩
          have hqX : q < X.length := by rw [hq]; exact Nat.mod_lt _ hX0
          have hcq : wr.cell? ⟨g4, q, none⟩ = some (.int .u8 ((co y q).toNat : Int)) := hcel.get q (by omega)
          have hfq : wr.frozen? ⟨g4, q, none⟩ = false := hcel.frozen q
          have hx := u8_xor_b (co y q) z
          have hcs2 := hcel.drew.set q (xorB (co y q) z)
          generalize xorB (co y q) z = u at hx hcs2
          generalize co y q = v at hcq hx
          have m1 : (t : Int) % (X.length : Int) = (q : Int) := by rw [hq]; omega
          have m2 : (t : Int).tmod (X.length : Int) = (q : Int) := by rw [Int.tmod_eq_emod_of_nonneg (by omega)]; exact m1
          have m3 : (0 : Int) ≤ (q : Int) := by omega
          have m4 : (q : Int) < (X.length : Int) := by omega
          have m5 : IntKind.i64.wrap (t : Int) = (t : Int) := by rw [IntKind.wrap_i64]; omega
          have HREL : Hid (TurnR X g4 w2 (.int .i64 ((j : Int) + 1)) (wr.drew.setCell ⟨g4, q, none⟩ (.int .u8 (u.toNat : Int)))) :=
            ⟨j + 1, y.set q u, by go_num, by rw [List.length_set]; exact hy, hcs2, (hbr.drew).setCell (p := ⟨g4, q, none⟩) hg4 _⟩
          clear hcs2 hcel hbr hcs' hcb' hq
          go_upto_region 13 with fail
          refine wp_region_still_tail 17 (by kernel_rfl) (by kernel_rfl) ?_
          simp only [List.take_succ_cons, List.take_zero, List.drop_succ_cons, List.drop_zero]
          repeat still_step
          try refine wpStill_nil ?_
          change wpList _ _ _ _ _ wr.drew
          go_wp2_with fail
          go_roundw
          case rel => exact HREL.out
          case measure => simp [intOf] <;> omega
        · have k1 : (j : Int) < (ns : Int) := by omega
          have k2 : ¬ (j : Int) < (nb : Int) := by omega
          have hry := hcel.rd
          replace hr2 := hr2.keep hbr
          replace hB := below_step hB hbr
          have HY : Hid (y.length = X.length) := hy
          have hcases := Lib.hid (mendS_back X y k h1 h2 hkn hn255 hy HFP.out)
          clear hcel hrs hrb hbr hr
          go_wp2_with fail
          go_loopw [14, 15] (fun p i wr' => CntR X y wr p i wr') (fun _ i _ => X.length - (intOf i).toNat)
          case atStart => exact ⟨0, Nat.zero_le _, rfl, rfl, Below.refl _ _⟩
          case round =>
            obtain ⟨q, hq, rfl, rfl, hbq⟩ := hrel
            by_cases hql : q < X.length
            · have k1 : (q : Int) < (X.length : Int) := by omega
              have k0 : (0 : Int) ≤ (q : Int) := by omega
              obtain ⟨gs, os, rfl, hgs, hcs'⟩ := hr2.at hql
              obtain ⟨hc1, hc2', HR⟩ := cnt_round HY.out (by omega) hql hgs hcs' hry hbq
              generalize X[q] = x at hc1 HR
              generalize y[q]'(by rw [HY.out]; exact hql) = z at hc2' HR
              generalize difL (X.take (q + 1)) (y.take (q + 1)) = P1 at HR
              generalize difL (X.take q) (y.take q) = P0 at HR ⊢
              have HRR := Lib.hid HR
              clear HR hcs' hgs hry hbq hr2
              by_cases exy : x = z
              · subst exy
                have hP := HRR.out.1 rfl
                subst hP
                have HR3 := Lib.hid HRR.out.2.2.2
                clear HRR
                go_upto_region 18 with fail
                go_quiet (fail)
                go_wp2_with fail
                go_roundw
                case rel => exact HR3.out _
                case measure => simp [intOf] <;> omega
              · have hne : ((x.toNat : Int) != (z.toNat : Int)) = true := bne_iff_ne.2 (fun e => exy (UInt8.toNat_inj.1 (by omega)))
                have hP := HRR.out.2.1 exy
                have hP1 := HRR.out.2.2.1
                have HR3 := Lib.hid HRR.out.2.2.2
                clear HRR
                go_upto_region 18 with fail
                go_quiet (fail)
                go_wp2_with fail
                go_roundw
                case rel => exact HR3.out _
                case measure => simp [intOf] <;> omega
            · have eq : q = X.length := by omega
              subst eq
              have k1 : ¬ (X.length : Int) < (X.length : Int) := by omega
              obtain ⟨D, hD⟩ : ∃ D, difL X y = D := ⟨_, rfl⟩
              have hDD : difL (X.take X.length) (y.take X.length) = D := by rw [List.take_length, ← HY.out, List.take_length]; exact hD
              rw [hDD]
              have hcs2 := hcases.out
              rw [hD] at hcs2
              have hDle : D ≤ 255 := by
                rw [← hD]
                have := wt_le (List.zipWith addB X y)
                rw [List.length_zipWith] at this
                unfold difL
                omega
              replace hr2 := hr2.keep hbq
              replace hry := hry.keep hbq
              replace hB := below_step hB hbq
              clear hbq hDD hD hcases
              have hm2 : (k : Int).tdiv 2 = ((k / 2 : Nat) : Int) := by rw [Int.tdiv_eq_ediv_of_nonneg (by omega)]; omega
              have hm3 : IntKind.i64.wrap ((k / 2 : Nat) : Int) = ((k / 2 : Nat) : Int) := by rw [IntKind.wrap_i64]; omega
              obtain ⟨M, hM⟩ : ∃ M, k / 2 = M := ⟨_, rfl⟩
              rw [hM] at hm2 hm3 hcs2
              clear hM
              rcases hcs2 with ⟨hDM, hS⟩ | ⟨hDM, hS⟩ | ⟨hDM, a, Da, hal, hS, hDa, hax, hfa⟩
              · have HS' := Lib.hid hS
                have j2 : (D : Int) ≤ (M : Int) := by omega
                clear hS
                go_wp2_with fail
                refine ((mendM_any y X.length (k : Int) _ c4 _ HY hry hc4 (by omega)).mono (fun _ _ h => h.to X D (D : Int) 0 HS'.out rfl)).mono ?_
                rintro e w5 ⟨A5, n5, c5, rfl, HN5, hc5, hr5, hb5, ha5⟩
                have en5 : n5 = X.length := HN5.out.symm
                subst en5
                have hrX := hr2.keep hb5
                have hs1 := strS0 (c := c5) X.length (Lib.hid rfl) hr5
                have hs2 := strS0 (c := c2) X.length (Lib.hid rfl) hrX
                replace hB := below_step hB hb5
                clear hb5 hr2 hry ha5
                go_wp2_with fail
                go_ret
                exact ⟨rfl, hB⟩
              · have HS' := Lib.hid hS
                have j2 : ¬ (D : Int) ≤ (M : Int) := by omega
                clear hS
                go_wp2_with fail
                refine ((mendM_any y X.length (k : Int) _ c4 _ HY hry hc4 (by omega)).mono (fun _ _ h => h.to [] 0 0 6 HS'.out rfl)).mono ?_
                rintro e w5 ⟨A5, n5, c5, rfl, HN5, hc5, hr5, hb5, ha5⟩
                have en5 : n5 = 0 := HN5.out.symm
                subst en5
                replace hB := below_step hB hb5
                clear hb5 hr2 hry ha5
                go_wp2_with fail
                go_ret
                exact ⟨rfl, hB⟩
              · have HS' := Lib.hid hS
                have HFa := Lib.hid hfa
                have j2 : ¬ (D : Int) ≤ (M : Int) := by omega
                have j3 : (Da : Int) ≤ (M : Int) := by omega
                clear hS hfa
                go_wp2_with fail
                refine ((mendM_any y X.length (k : Int) _ c4 _ HY hry hc4 (by omega)).mono (fun _ _ h => h.to a Da (Da : Int) 0 HS'.out rfl)).mono ?_
                rintro e w5 ⟨A5, n5, c5, rfl, HN5, hc5, hr5, hb5, ha5⟩
                have en5 : n5 = X.length := by rw [← HN5.out]; exact hal
                subst en5
                have hrX := hr2.keep hb5
                have hs1 := strS0 (c := c5) X.length HN5 hr5
                have hs2 := strS0 (c := c2) X.length (Lib.hid rfl) hrX
                have hsne : ((strL a).toList == (strL X).toList) = false := by rw [str_beq, decide_eq_false hax]
                have hsn2 : ¬ (strL a).toList = (strL X).toList := beq_eq_false_iff_ne.1 hsne
                replace hB := below_step hB hb5
                clear hb5 hr2 hry ha5
                go_wp2_with fail
                refine (fineS_any a X.length (k : Int) _ c5 _ HN5 hr5 hc5 (by omega)).mono ?_
                rintro e w6 ⟨rfl, hb6⟩
                replace hB := below_step hB hb6
                rw [HFa.out]
                go_wp2_with fail
                go_ret
                exact ⟨rfl, hB⟩
      · have k1 : ¬ (j : Int) < (ns : Int) := by omega
        have hry := hcel.rd
        replace hr2 := hr2.keep hbr
        replace hB := below_step hB hbr
        have HY : Hid (y.length = X.length) := hy
        have hcases := Lib.hid (mendS_back X y k h1 h2 hkn hn255 hy HFP.out)
        clear hcel hrs hrb hbr hr
        go_wp2_with fail
        go_loopw [14, 15] (fun p i wr' => CntR X y wr p i wr') (fun _ i _ => X.length - (intOf i).toNat)
        case atStart => exact ⟨0, Nat.zero_le _, rfl, rfl, Below.refl _ _⟩
        case round =>
          obtain ⟨q, hq, rfl, rfl, hbq⟩ := hrel
          by_cases hql : q < X.length
          · have k1 : (q : Int) < (X.length : Int) := by omega
            have k0 : (0 : Int) ≤ (q : Int) := by omega
            obtain ⟨gs, os, rfl, hgs, hcs'⟩ := hr2.at hql
            obtain ⟨hc1, hc2', HR⟩ := cnt_round HY.out (by omega) hql hgs hcs' hry hbq
            generalize X[q] = x at hc1 HR
            generalize y[q]'(by rw [HY.out]; exact hql) = z at hc2' HR
            generalize difL (X.take (q + 1)) (y.take (q + 1)) = P1 at HR
            generalize difL (X.take q) (y.take q) = P0 at HR ⊢
            have HRR := Lib.hid HR
            clear HR hcs' hgs hry hbq hr2
            by_cases exy : x = z
            · subst exy
              have hP := HRR.out.1 rfl
              subst hP
              have HR3 := Lib.hid HRR.out.2.2.2
              clear HRR
              go_upto_region 18 with fail
              go_quiet (fail)
              go_wp2_with fail
              go_roundw
              case rel => exact HR3.out _
              case measure => simp [intOf] <;> omega
            · have hne : ((x.toNat : Int) != (z.toNat : Int)) = true := bne_iff_ne.2 (fun e => exy (UInt8.toNat_inj.1 (by omega)))
              have hP := HRR.out.2.1 exy
              have hP1 := HRR.out.2.2.1
              have HR3 := Lib.hid HRR.out.2.2.2
              clear HRR
              go_upto_region 18 with fail
              go_quiet (fail)
              go_wp2_with fail
              go_roundw
              case rel => exact HR3.out _
              case measure => simp [intOf] <;> omega
          · have eq : q = X.length := by omega
            subst eq
            have k1 : ¬ (X.length : Int) < (X.length : Int) := by omega
            obtain ⟨D, hD⟩ : ∃ D, difL X y = D := ⟨_, rfl⟩
            have hDD : difL (X.take X.length) (y.take X.length) = D := by rw [List.take_length, ← HY.out, List.take_length]; exact hD
            rw [hDD]
            have hcs2 := hcases.out
            rw [hD] at hcs2
            have hDle : D ≤ 255 := by
              rw [← hD]
              have := wt_le (List.zipWith addB X y)
              rw [List.length_zipWith] at this
              unfold difL
              omega
            replace hr2 := hr2.keep hbq
            replace hry := hry.keep hbq
            replace hB := below_step hB hbq
            clear hbq hDD hD hcases
            have hm2 : (k : Int).tdiv 2 = ((k / 2 : Nat) : Int) := by rw [Int.tdiv_eq_ediv_of_nonneg (by omega)]; omega
            have hm3 : IntKind.i64.wrap ((k / 2 : Nat) : Int) = ((k / 2 : Nat) : Int) := by rw [IntKind.wrap_i64]; omega
            obtain ⟨M, hM⟩ : ∃ M, k / 2 = M := ⟨_, rfl⟩
            rw [hM] at hm2 hm3 hcs2
            clear hM
            rcases hcs2 with ⟨hDM, hS⟩ | ⟨hDM, hS⟩ | ⟨hDM, a, Da, hal, hS, hDa, hax, hfa⟩
            · have HS' := Lib.hid hS
              have j2 : (D : Int) ≤ (M : Int) := by omega
              clear hS
              go_wp2_with fail
              refine ((mendM_any y X.length (k : Int) _ c4 _ HY hry hc4 (by omega)).mono (fun _ _ h => h.to X D (D : Int) 0 HS'.out rfl)).mono ?_
              rintro e w5 ⟨A5, n5, c5, rfl, HN5, hc5, hr5, hb5, ha5⟩
              have en5 : n5 = X.length := HN5.out.symm
              subst en5
              have hrX := hr2.keep hb5
              have hs1 := strS0 (c := c5) X.length (Lib.hid rfl) hr5
              have hs2 := strS0 (c := c2) X.length (Lib.hid rfl) hrX
              replace hB := below_step hB hb5
              clear hb5 hr2 hry ha5
              go_wp2_with fail
              go_ret
              exact ⟨rfl, hB⟩
            · have HS' := Lib.hid hS
              have j2 : ¬ (D : Int) ≤ (M : Int) := by omega
              clear hS
              go_wp2_with fail
              refine ((mendM_any y X.length (k : Int) _ c4 _ HY hry hc4 (by omega)).mono (fun _ _ h => h.to [] 0 0 6 HS'.out rfl)).mono ?_
              rintro e w5 ⟨A5, n5, c5, rfl, HN5, hc5, hr5, hb5, ha5⟩
              have en5 : n5 = 0 := HN5.out.symm
              subst en5
              replace hB := below_step hB hb5
              clear hb5 hr2 hry ha5
              go_wp2_with fail
              go_ret
              exact ⟨rfl, hB⟩
            · have HS' := Lib.hid hS
              have HFa := Lib.hid hfa
              have j2 : ¬ (D : Int) ≤ (M : Int) := by omega
              have j3 : (Da : Int) ≤ (M : Int) := by omega
              clear hS hfa
              go_wp2_with fail
              refine ((mendM_any y X.length (k : Int) _ c4 _ HY hry hc4 (by omega)).mono (fun _ _ h => h.to a Da (Da : Int) 0 HS'.out rfl)).mono ?_
              rintro e w5 ⟨A5, n5, c5, rfl, HN5, hc5, hr5, hb5, ha5⟩
              have en5 : n5 = X.length := by rw [← HN5.out]; exact hal
              subst en5
              have hrX := hr2.keep hb5
              have hs1 := strS0 (c := c5) X.length HN5 hr5
              have hs2 := strS0 (c := c2) X.length (Lib.hid rfl) hrX
              have hsne : ((strL a).toList == (strL X).toList) = false := by rw [str_beq, decide_eq_false hax]
              have hsn2 : ¬ (strL a).toList = (strL X).toList := beq_eq_false_iff_ne.1 hsne
              replace hB := below_step hB hb5
              clear hb5 hr2 hry ha5
              go_wp2_with fail
              refine (fineS_any a X.length (k : Int) _ c5 _ HN5 hr5 hc5 (by omega)).mono ?_
              rintro e w6 ⟨rfl, hb6⟩
              replace hB := below_step hB hb6
              rw [HFa.out]
              go_wp2_with fail
              go_ret
              exact ⟨rfl, hB⟩
end Go.Proofs.Ytankddeolpickaa
