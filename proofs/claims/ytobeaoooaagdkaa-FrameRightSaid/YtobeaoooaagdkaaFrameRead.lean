/-
  What the reference's call Read of layer 12 answers. No conditions but those typed.
-/
import Derived.Test.YtobeaoooaagdkaaFrameWrite
import Derived.Test.YtobeaoooaagdkaaWordRef
namespace Go.Proofs.Ytobeaoooaagdkaa
set_option maxRecDepth 100000
open Go.RowKit
set_option linter.unusedSimpArgs false
set_option linter.unusedVariables false

theorem info_u64 : (Try.prog.info? 22).map (fun i => (i.zero, i.size, i.bytes)) = some (some (.int .u64 0), 1, 8) := by kernel_rfl
theorem size_pay : (Try.prog.info? 25).map (·.size) = some 4 := by kernel_rfl
theorem one_four (a b c d : Value) (ha : a.oneCell' = true) (hb : b.oneCell' = true) (hc : c.oneCell' = true) (hd : d.oneCell' = true) : ∀ v ∈ [a, b, c, d], v.oneCell' = true := fun v hv => by
  simp at hv
  rcases hv with rfl | rfl | rfl | rfl <;> assumption
abbrev ResF := Int × Nat × Nat × Nat × List UInt8
def contF : Nat → List Nat → List UInt8 → ResF
  | 0, v, r => readT (v.getD 0 0) (v.getD 1 0) (v.getD 2 0) r
  | k + 1, v, r => if (readN r).1 = 0 then contF k (v ++ [(readN r).2.1]) (readN r).2.2 else ((readN r).1, 0, 0, 0, [])
theorem cont_succ (k : Nat) (v : List Nat) (r : List UInt8) : contF (k + 1) v r = if (readN r).1 = 0 then contF k (v ++ [(readN r).2.1]) (readN r).2.2 else ((readN r).1, 0, 0, 0, []) := rfl
theorem cut_mid (A : Option Addr) (n cap lo m : Nat) (h : lo + m ≤ cap) (W : World) : (Instr.slice 23 (.slice A n cap) (some (.int .i64 (lo : Int))) (some (.int .i64 ((lo : Int) + (m : Int)))) none).run Try.prog W = .ok (.slice (if cap = lo then A else A.map (·.add (lo * 1))) m (cap - lo)) W := by
  have he : Try.prog.elem 23 = 5 := by simp [Program.elem, Try.underlying23]
  rw [run_slice_lh W 23 A n cap (by rw [he]; exact Try.underlying23) .i64 .i64 (lo : Int) ((lo : Int) + (m : Int)) (by omega) (by omega) (by omega), he, size_uint8]
  simp only [Result.andThen, sliced, Int.toNat_natCast]
  rw [show ((lo : Int) + (m : Int)).toNat - lo = m by omega]
theorem value_at (l : List UInt8) (m : Nat) (A : Option Addr) (cap : Nat) (w : World) (HL : Hid (l.length = m)) (hr : Rd vB w A l) (hm : m ≤ 8) :
    Calls Try.prog 21 #[.slice A m cap] w fun e w' => e = .returned (.int .u64 (valN l : Int)) ∧ w = w' := by
  have e := HL.out
  subst e
  have hv := valN_lt8 l hm
  rw [show (valN l : Int) = ((valN l % 18446744073709551616 : Nat) : Int) by rw [Nat.mod_eq_of_lt hv]]
  exact value_any l A cap w hr (by omega)
theorem cont_read (r : List UInt8) : contF 3 [] r = readB r := by
  simp only [readB, readE, readC, contF]
  rfl
/-- A call that hands back a payload and an error. -/
def RetP (w : World) (F : ResF) (e : Ending) (w' : World) : Prop := ∃ A n k, e = .returned (.tuple #[aggP F.2.1 F.2.2.1 F.2.2.2.1 A n k, .int .i64 F.1]) ∧ Hid (F.2.2.2.2.length = n) ∧ n ≤ k ∧ Rd vB w' A F.2.2.2.2 ∧ Below w.heap.size w w'
def threeP (g o : Nat) (a b c : Value) (W : World) : Prop := W.cell? ⟨g, o, none⟩ = some a ∧ (W.cell? ⟨g, o + 1, none⟩ = some b ∧ W.cell? ⟨g, o + 2, none⟩ = some c)
def RdR (b : List UInt8) (F : ResF) (w : World) (at' v iv : Value) (wr : World) : Prop :=
  ∃ (i p : Nat) (N : List Nat), i ≤ 3 ∧ N.length = i ∧ p ≤ b.length ∧ iv = .int .i64 (i : Int) ∧ at' = .int .i64 (p : Int) ∧ Hid (contF (3 - i) N (b.drop p) = F) ∧ wr.ownsRow (w.heap.size + 1) 22 1 v i (N.map uV) ∧ Row wr w.heap.size 25 [.int .u64 0, .int .u64 0, .int .u64 0, .slice none 0 0] ∧ Below w.heap.size w wr

set_option maxRecDepth 100000 in
set_option maxHeartbeats 4000000 in
theorem refreadF_any (b : List UInt8) (n : Nat) (A : Option Addr) (c : Nat) (w : World) (HN : Hid (b.length = n)) (hr : Rd vB w A b) (hc : n ≤ c) (hn : n ≤ 100000) :
    Calls Try.prog 9 #[.slice A n c] w (RetP w (readF b)) := by
  obtain ⟨i0, hi, hz0, hz1, hz2⟩ := info_parts info_u64
  obtain ⟨i8, hi8, hy0, hy1, hy2⟩ := info_parts info_u8
  obtain ⟨F, hF0⟩ : ∃ F, readF b = F := ⟨_, rfl⟩
  rw [hF0]
  obtain ⟨hR0, hB0⟩ := box_pay w 25 (.int .u64 0) (.int .u64 0) (.int .u64 0) (.slice none 0 0)
  have e1 := HN.out
  subst e1
  go_enter Try.func9, Try.ntmps9
  go_upto_region 1 with fail
  generalize (w.alloc (.cells #[.int .u64 0, .int .u64 0, .int .u64 0, .slice none 0 0] 25)) = W0 at hR0 hB0 ⊢
  by_cases h0 : b.length = 0
  · have hb0 : b = [] := List.eq_nil_of_length_eq_zero h0
    have l0 : ((b.length : Int) == 0) = true := beq_iff_eq.2 (by omega)
    have hF : F = (2, 0, 0, 0, []) := by rw [← hF0, hb0]; rfl
    subst hF
    go_wp2_with (refine wpList_store_row rfl 25 (.tmp 2) (.tmp 11) rfl w.heap.size rfl [.int .u64 0, .int .u64 0, .int .u64 0, .slice none 0 0] rfl _ _ hR0 (by exact size_pay) rfl (one_four _ _ _ _ rfl rfl rfl rfl) ?_)
    refine bodyPost_ret (results_row_tmp (p := 2) (u := 3) (ty := 25) (by rfl) _ _ w.heap.size 25 _ _ (by rfl) (by exact hR0.setRow _) Try.underlying25 (by rfl) (by exact size_pay)) (by rfl) ?_
    exact ⟨none, 0, 0, rfl, Lib.hid rfl, Nat.le_refl _, Rd.nil, below_setRow hB0 (Nat.le_refl _) _⟩
  · obtain ⟨x, r, hb⟩ : ∃ x r, b = x :: r := by
      cases b with
      | nil => exact absurd rfl h0
      | cons x r => exact ⟨x, r, rfl⟩
    have hbl : 0 < b.length := by omega
    obtain ⟨g, o, rfl, hg, hcell⟩ := hr.at hbl
    have hx0 : W0.cell? ⟨g, o, none⟩ = some (.int .u8 (x.toNat : Int)) := by
      have := hcell 0 hbl
      rw [show b[0] = x by simp [hb]] at this
      exact (hB0.cell (p := ⟨g, o, none⟩) hg).trans this
    have l0 : ((b.length : Int) == 0) = false := beq_eq_false_iff_ne.2 (by omega)
    have l1 : (0 : Int) < (b.length : Int) := by omega
    have hrF : F = if x ≠ 87 then (3, 0, 0, 0, []) else readB r := by rw [← hF0, hb, readF_cons]
    have hdr : b.drop 1 = r := by rw [hb]; rfl
    have hbne : b ≠ [] := by rw [hb]; simp
    clear hb hF0
    by_cases h87 : x = 87
    · subst h87
      have hx1 : W0.cell? ⟨g, o, none⟩ = some (.int .u8 87) := hx0
      have HST : Hid (contF (3 - 0) [] (b.drop 1) = F) := by unfold Hid; rw [hdr, cont_read, hrF, if_neg (by simp)]
      have HCL := Lib.hid hcell
      clear hx0 hrF hdr hcell
      go_wp2_with fail
      go_loopw [4, 5, 6] (fun at' v iv wr => RdR b F w at' v iv wr) (fun _ _ i _ => 3 - (intOf i).toNat)
      case atStart => exact ⟨0, 1, [], by omega, rfl, by omega, rfl, rfl, HST, World.ownsRow_nil _ _ _ _, hR0, hB0⟩
      case round =>
        clear hR0 hB0 hx1
        obtain ⟨i, p, N, hi3, hNl, hp, rfl, rfl, HF, hown, hRp, hbel⟩ := hrel
        have hgp := hRp.lt
        by_cases h : i < 3
        · have hFF := HF.out
          rw [show 3 - i = (2 - i) + 1 by omega, cont_succ] at hFF
          have i1 : (i : Int) < 3 := by omega
          by_cases hpl : p < b.length
          · obtain ⟨y, hy⟩ : ∃ y, b[p] = y := ⟨_, rfl⟩
            have hdp : b.drop p = y :: b.drop (p + 1) := by rw [← hy]; exact List.drop_eq_getElem_cons hpl
            have hSl : (b.drop (p + 1)).length = b.length - (p + 1) := List.length_drop
            have hcy : wr.cell? ⟨g, o + p, none⟩ = some (.int .u8 (y.toNat : Int)) := by rw [← hy]; exact (hbel.cell (p := ⟨g, o + p, none⟩) hg).trans (HCL.out p hpl)
            have hdd : ∀ q, (b.drop (p + 1)).drop q = b.drop (p + 1 + q) := fun q => List.drop_drop
            have hhd : ∀ z, b[p + 1]? = some z → (b.drop (p + 1)).head? = some z := fun z hz => by rw [List.head?_drop, hz]
            rw [hdp, readN_cons] at hFF
            have hmid : ∀ m', Rd vB wr (if c = p + 1 then some ⟨g, o, none⟩ else (some (⟨g, o, none⟩ : Addr)).map (·.add ((p + 1) * 1))) ((b.drop (p + 1)).take m') := fun m' => by
              have := (hr.keep hbel).mid (p + 1) (p + 1 + m') c hc
              rwa [show p + 1 + m' - (p + 1) = m' by omega] at this
            have hsl := fun m' h W => cut_mid (some ⟨g, o, none⟩) b.length c (p + 1) m' h W
            obtain ⟨q, hq⟩ : ∃ q, q = p + 1 := ⟨_, rfl⟩
            rw [← hq] at hFF hSl hdd hhd hmid hsl
            generalize b.drop q = S at hFF hSl hdd hhd hmid
            generalize (if c = q then some (⟨g, o, none⟩ : Addr) else (some (⟨g, o, none⟩ : Addr)).map (·.add (q * 1))) = A' at hmid hsl
            have hyl := y.toNat_lt
            generalize y.toNat = m at hFF hcy hyl
            have p1 : (p : Int) < (b.length : Int) := by omega
            have p0 : (0 : Int) ≤ (p : Int) := by omega
            have mw : True → IntKind.i64.wrap (m : Int) = (m : Int) := fun _ => by rw [IntKind.wrap_i64]; omega
            clear hy hdp
            by_cases h8 : 8 < m
            · have m8 : (8 : Int) < (m : Int) := by omega
              rw [if_pos h8] at hFF
              have hF : F = (4, 0, 0, 0, []) := by rw [← hFF]; rfl
              subst hF
              go_wp2_with (refine wpList_store_row rfl 25 (.tmp 2) (.tmp 35) rfl w.heap.size rfl [.int .u64 0, .int .u64 0, .int .u64 0, .slice none 0 0] rfl _ _ hRp (by exact size_pay) rfl (one_four _ _ _ _ rfl rfl rfl rfl) ?_)
              refine bodyPost_ret (results_row_tmp (p := 2) (u := 3) (ty := 25) (by rfl) _ _ w.heap.size 25 _ _ (by rfl) (by exact hRp.setRow _) Try.underlying25 (by rfl) (by exact size_pay)) (by rfl) ?_
              exact ⟨none, 0, 0, rfl, Lib.hid rfl, Nat.le_refl _, Rd.nil, below_setRow hbel (Nat.le_refl _) _⟩
            · rw [if_neg h8] at hFF
              have m8 : ¬ (8 : Int) < (m : Int) := by omega
              by_cases hs : S.length < m
              · rw [if_pos hs] at hFF
                have ms : (b.length : Int) - ((p : Int) + 1) < (m : Int) := by omega
                have hF : F = (2, 0, 0, 0, []) := by rw [← hFF]; rfl
                subst hF
                go_wp2_with (refine wpList_store_row rfl 25 (.tmp 2) (.tmp 42) rfl w.heap.size rfl [.int .u64 0, .int .u64 0, .int .u64 0, .slice none 0 0] rfl _ _ hRp (by exact size_pay) rfl (one_four _ _ _ _ rfl rfl rfl rfl) ?_)
                refine bodyPost_ret (results_row_tmp (p := 2) (u := 3) (ty := 25) (by rfl) _ _ w.heap.size 25 _ _ (by rfl) (by exact hRp.setRow _) Try.underlying25 (by rfl) (by exact size_pay)) (by rfl) ?_
                exact ⟨none, 0, 0, rfl, Lib.hid rfl, Nat.le_refl _, Rd.nil, below_setRow hbel (Nat.le_refl _) _⟩
              · rw [if_neg hs] at hFF
                have ms : ¬ (b.length : Int) - ((p : Int) + 1) < (m : Int) := by omega
                have hpq : (p : Int) + 1 = (q : Int) := by omega
                have q0 : (0 : Int) ≤ (q : Int) := by omega
                by_cases hm0 : m = 0
                · have hz3 : ¬ (0 < m ∧ S.head? = some (0 : UInt8)) := fun h => by omega
                  rw [if_neg hz3] at hFF
                  have m0 : ¬ (0 : Int) < (m : Int) := by omega
                  have m00 : decide ((0 : Int) < (m : Int)) = false := decide_eq_false m0
                  have HM0 := Lib.hid hm0
                  clear hm0
                  rw [if_pos rfl] at hFF
                  have hLl : (S.take m).length = m := by rw [List.length_take]; omega
                  have HNX0 : Hid (contF (3 - (i + 1)) (N ++ [valN (S.take m)]) (b.drop (q + m)) = F) := by unfold Hid; rw [show 3 - (i + 1) = 2 - i by omega, ← hdd m]; exact hFF
                  obtain ⟨V, hV⟩ : ∃ V, valN (S.take m) = V := ⟨_, rfl⟩
                  have hV64 : V < 18446744073709551616 := by rw [← hV]; exact valN_lt8 _ (by omega)
                  have HNX : Hid (contF (3 - (i + 1)) (N ++ [V]) (b.drop (q + m)) = F) := by rw [← hV]; exact HNX0
                  have hrd := hmid m
                  generalize S.take m = L at hLl hV hrd
                  have HLL := Lib.hid hLl
                  have HV := Lib.hid hV
                  have s1 : (q : Int) + (m : Int) ≤ (c : Int) := by omega
                  have s2 : q + m ≤ c := by omega
                  have hsx := hsl m s2
                  have hsz := hbel.size
                  clear hFF HNX0 hV hLl hmid hdd hhd hs hsl
                  clear hq hz3
                  go_wp2_with fail
                  refine (value_at L m A' (c - q) _ HLL hrd (by omega)).mono ?_
                  rintro ee w7 ⟨rfl, rfl⟩
                  rw [HV.out]
                  go_wp2_with (at_builtin; refine wpList_append_own _ rfl _ _ 42 rfl (w.heap.size + 1) 22 i0 (.int .u64 0) 1 8 Try.underlying42 hi hz0 hz1 hz2 rfl (by decide) _ _ _ rfl (hown.alloc _) ⟨wr.heap.size, 0, none⟩ 1 1 [.int .u64 (V : Int)] rfl rfl (cell_one_new _ _ _) (by intro u hu; simp at hu; subst hu; rfl) (by unfold maxLen; omega) (by omega) (by simp; omega) ?_; intro v' w8 hown' hgrow' _)
                  have hB8 : Below w.heap.size w w8 := (hbel.alloc hbel.size _).grown hgrow' (by simp; omega) (fun k hk => by have := (hown.lt k hk).1; omega)
                  have hR8 : Row w8 w.heap.size 25 [.int .u64 0, .int .u64 0, .int .u64 0, .slice none 0 0] := (hRp.alloc (.cells #[.int .u64 (V : Int)] 22)).grown hgrow' (fun e => by have := (hown.lt _ e).1; omega)
                  have HREL : Hid (RdR b F w (.int .i64 ((q : Int) + (m : Int))) v' (.int .i64 ((i : Int) + 1)) w8) := ⟨i + 1, q + m, N ++ [V], by omega, by rw [List.length_append, hNl]; rfl, by omega, by go_num, by go_num, HNX, by rw [List.map_append]; exact hown', hR8, hB8⟩
                  clear hown' hgrow' hown hbel hB8 hRp hR8
                  go_wp2_with fail
                  go_roundw
                  case rel => exact HREL.out
                  case measure => simp [intOf] <;> omega
                · have hq1 : q < b.length := by omega
                  obtain ⟨z, hz⟩ : ∃ z, b[q] = z := ⟨_, rfl⟩
                  have hcz : wr.cell? ⟨g, o + q, none⟩ = some (.int .u8 (z.toNat : Int)) := by rw [← hz]; exact (hbel.cell (p := ⟨g, o + q, none⟩) hg).trans (HCL.out q hq1)
                  have m0 : (0 : Int) < (m : Int) := by omega
                  have m00 : decide ((0 : Int) < (m : Int)) = true := decide_eq_true m0
                  have q1 : (q : Int) < (b.length : Int) := by omega
                  rw [hhd z (by rw [List.getElem?_eq_getElem hq1, hz])] at hFF
                  by_cases hz0' : z = 0
                  · have hz2 : 0 < m ∧ some z = some (0 : UInt8) := ⟨by omega, by rw [hz0']⟩
                    rw [if_pos hz2] at hFF
                    have hcz0 : wr.cell? ⟨g, o + q, none⟩ = some (.int .u8 0) := by rw [hcz, hz0']; rfl
                    clear hcz hq
                    have hF : F = (3, 0, 0, 0, []) := by rw [← hFF]; rfl
                    subst hF
                    go_wp2_with (refine wpList_store_row rfl 25 (.tmp 2) (.tmp 52) rfl w.heap.size rfl [.int .u64 0, .int .u64 0, .int .u64 0, .slice none 0 0] rfl _ _ hRp (by exact size_pay) rfl (one_four _ _ _ _ rfl rfl rfl rfl) ?_)
                    refine bodyPost_ret (results_row_tmp (p := 2) (u := 3) (ty := 25) (by rfl) _ _ w.heap.size 25 _ _ (by rfl) (by exact hRp.setRow _) Try.underlying25 (by rfl) (by exact size_pay)) (by rfl) ?_
                    exact ⟨none, 0, 0, rfl, Lib.hid rfl, Nat.le_refl _, Rd.nil, below_setRow hbel (Nat.le_refl _) _⟩
                  · have hz3 : ¬ (0 < m ∧ some z = some (0 : UInt8)) := fun h => hz0' (Option.some.inj h.2)
                    rw [if_neg hz3] at hFF
                    have t0 : z.toNat ≠ 0 := fun e => hz0' (UInt8.toNat_inj.1 e)
                    generalize z.toNat = t at hcz t0
                    have t1 : ((t : Int) == 0) = false := beq_eq_false_iff_ne.2 (by omega)
                    rw [if_pos rfl] at hFF
                    have hLl : (S.take m).length = m := by rw [List.length_take]; omega
                    have HNX0 : Hid (contF (3 - (i + 1)) (N ++ [valN (S.take m)]) (b.drop (q + m)) = F) := by unfold Hid; rw [show 3 - (i + 1) = 2 - i by omega, ← hdd m]; exact hFF
                    obtain ⟨V, hV⟩ : ∃ V, valN (S.take m) = V := ⟨_, rfl⟩
                    have hV64 : V < 18446744073709551616 := by rw [← hV]; exact valN_lt8 _ (by omega)
                    have HNX : Hid (contF (3 - (i + 1)) (N ++ [V]) (b.drop (q + m)) = F) := by rw [← hV]; exact HNX0
                    have hrd := hmid m
                    generalize S.take m = L at hLl hV hrd
                    have HLL := Lib.hid hLl
                    have HV := Lib.hid hV
                    have s1 : (q : Int) + (m : Int) ≤ (c : Int) := by omega
                    have s2 : q + m ≤ c := by omega
                    have hsx := hsl m s2
                    have hsz := hbel.size
                    clear hFF HNX0 hV hLl hmid hdd hhd hs hsl
                    clear hq hz3 hz
                    go_wp2_with fail
                    refine (value_at L m A' (c - q) _ HLL hrd (by omega)).mono ?_
                    rintro ee w7 ⟨rfl, rfl⟩
                    rw [HV.out]
                    go_wp2_with (at_builtin; refine wpList_append_own _ rfl _ _ 42 rfl (w.heap.size + 1) 22 i0 (.int .u64 0) 1 8 Try.underlying42 hi hz0 hz1 hz2 rfl (by decide) _ _ _ rfl (hown.alloc _) ⟨wr.heap.size, 0, none⟩ 1 1 [.int .u64 (V : Int)] rfl rfl (cell_one_new _ _ _) (by intro u hu; simp at hu; subst hu; rfl) (by unfold maxLen; omega) (by omega) (by simp; omega) ?_; intro v' w8 hown' hgrow' _)
                    have hB8 : Below w.heap.size w w8 := (hbel.alloc hbel.size _).grown hgrow' (by simp; omega) (fun k hk => by have := (hown.lt k hk).1; omega)
                    have hR8 : Row w8 w.heap.size 25 [.int .u64 0, .int .u64 0, .int .u64 0, .slice none 0 0] := (hRp.alloc (.cells #[.int .u64 (V : Int)] 22)).grown hgrow' (fun e => by have := (hown.lt _ e).1; omega)
                    have HREL : Hid (RdR b F w (.int .i64 ((q : Int) + (m : Int))) v' (.int .i64 ((i : Int) + 1)) w8) := ⟨i + 1, q + m, N ++ [V], by omega, by rw [List.length_append, hNl]; rfl, by omega, by go_num, by go_num, HNX, by rw [List.map_append]; exact hown', hR8, hB8⟩
                    clear hown' hgrow' hown hbel hB8 hRp hR8
                    go_wp2_with fail
                    go_roundw
                    case rel => exact HREL.out
                    case measure => simp [intOf] <;> omega
          · have hdp : b.drop p = [] := List.drop_of_length_le (by omega)
            rw [hdp] at hFF
            have p1 : ¬ (p : Int) < (b.length : Int) := by omega
            have p2 : (b.length : Int) ≤ (p : Int) := by omega
            have hF : F = (2, 0, 0, 0, []) := by rw [← hFF]; rfl
            subst hF
            go_wp2_with (refine wpList_store_row rfl 25 (.tmp 2) (.tmp 25) rfl w.heap.size rfl [.int .u64 0, .int .u64 0, .int .u64 0, .slice none 0 0] rfl _ _ hRp (by exact size_pay) rfl (one_four _ _ _ _ rfl rfl rfl rfl) ?_)
            refine bodyPost_ret (results_row_tmp (p := 2) (u := 3) (ty := 25) (by rfl) _ _ w.heap.size 25 _ _ (by rfl) (by exact hRp.setRow _) Try.underlying25 (by rfl) (by exact size_pay)) (by rfl) ?_
            exact ⟨none, 0, 0, rfl, Lib.hid rfl, Nat.le_refl _, Rd.nil, below_setRow hbel (Nat.le_refl _) _⟩
        · have ei : i = 3 := by omega
          subst ei
          have i1 : ¬ (3 : Int) < 3 := by omega
          have hSl : (b.drop p).length = b.length - p := List.length_drop
          have hFF : readT (N.getD 0 0) (N.getD 1 0) (N.getD 2 0) (b.drop p) = F := HF.out
          unfold readT at hFF
          have p0 : (0 : Int) ≤ (p : Int) := by omega
          have pl : (p : Int) ≤ (b.length : Int) := by omega
          by_cases h8 : b.length - p < 8
          · rw [if_pos (by omega)] at hFF
            have m8 : (b.length : Int) - (p : Int) < 8 := by omega
            have hF : F = (2, 0, 0, 0, []) := hFF.symm
            subst hF
            go_wp2_with (refine wpList_store_row rfl 25 (.tmp 2) (.tmp 71) rfl w.heap.size rfl [.int .u64 0, .int .u64 0, .int .u64 0, .slice none 0 0] rfl _ _ hRp (by exact size_pay) rfl (one_four _ _ _ _ rfl rfl rfl rfl) ?_)
            refine bodyPost_ret (results_row_tmp (p := 2) (u := 3) (ty := 25) (by rfl) _ _ w.heap.size 25 _ _ (by rfl) (by exact hRp.setRow _) Try.underlying25 (by rfl) (by exact size_pay)) (by rfl) ?_
            exact ⟨none, 0, 0, rfl, Lib.hid rfl, Nat.le_refl _, Rd.nil, below_setRow hbel (Nat.le_refl _) _⟩
          · rw [if_neg (by omega)] at hFF
            have m8 : ¬ (b.length : Int) - (p : Int) < 8 := by omega
            by_cases h9 : 8 < b.length - p
            · rw [if_pos (by omega)] at hFF
              have m9 : (8 : Int) < (b.length : Int) - (p : Int) := by omega
              have hF : F = (4, 0, 0, 0, []) := hFF.symm
              subst hF
              go_wp2_with (refine wpList_store_row rfl 25 (.tmp 2) (.tmp 77) rfl w.heap.size rfl [.int .u64 0, .int .u64 0, .int .u64 0, .slice none 0 0] rfl _ _ hRp (by exact size_pay) rfl (one_four _ _ _ _ rfl rfl rfl rfl) ?_)
              refine bodyPost_ret (results_row_tmp (p := 2) (u := 3) (ty := 25) (by rfl) _ _ w.heap.size 25 _ _ (by rfl) (by exact hRp.setRow _) Try.underlying25 (by rfl) (by exact size_pay)) (by rfl) ?_
              exact ⟨none, 0, 0, rfl, Lib.hid rfl, Nat.le_refl _, Rd.nil, below_setRow hbel (Nat.le_refl _) _⟩
            · rw [if_neg (by omega)] at hFF
              have m9 : ¬ (8 : Int) < (b.length : Int) - (p : Int) := by omega
              obtain ⟨t, e, d, rfl⟩ : ∃ t e d, N = [t, e, d] := by
                match N, hNl with
                | [t, e, d], _ => exact ⟨t, e, d, rfl⟩
              have hFF' : (0, t, e, d, b.drop p) = F := hFF
              have hol := hown.lt
              obtain ⟨Al, cl, rfl, hcl, hrl⟩ := own_slice (l := [t, e, d]) hown
              obtain ⟨gl, ol, rfl, hgl, hcl'⟩ := hrl.at (show 0 < [t, e, d].length by simp)
              have hglb := (hol gl rfl).1
              have k0 : wr.cell? ⟨gl, ol, none⟩ = some (.int .u64 (t : Int)) := hcl' 0 (by simp)
              have k1 : wr.cell? ⟨gl, ol + 1, none⟩ = some (.int .u64 (e : Int)) := hcl' 1 (by simp)
              have k2 : wr.cell? ⟨gl, ol + 2, none⟩ = some (.int .u64 (d : Int)) := hcl' 2 (by simp)
              obtain ⟨A', hsl, hcut⟩ := cut_from (P := Try.prog) 23 5 Try.underlying23 size_uint8 (some ⟨g, o, none⟩) b.length c p (by omega) (by omega)
              have hrd := hcut vB wr b rfl (hr.keep hbel)
              have hb8 : b.length - p = 8 := by omega
              rw [hb8] at hsl
              generalize b.drop p = S at hrd hFF' hSl
              subst hFF'
              have HS8 : Hid (S.length = 8) := by unfold Hid; omega
              clear hcut hcl' hrl hown hol hFF HF hSl h8 h9 hcl HCL hr
              go_upto_region 26 with fail
              have hS : threeP gl ol (.int .u64 (t : Int)) (.int .u64 (e : Int)) (.int .u64 (d : Int)) wr.drew := ⟨k0, k1, k2⟩
              have hRp' := hRp.drew
              have hrd' := hrd.keep (Below.refl wr.heap.size wr).drew
              have hbel' := hbel.drew
              have hgl' : gl < wr.drew.heap.size := hgl
              have hRp0 : w.heap.size < wr.drew.heap.size := hRp.lt
              refine wp_region_plan_of (threeP gl ol (.int .u64 (t : Int)) (.int .u64 (e : Int)) (.int .u64 (d : Int))) (.step 0 false (.step 1 false (.step 2 false (.step 3 false (.step 4 false (.step 5 false (.step 6 false (.step 7 false (.step 8 false (.step 10 false (.step 11 false (.step 12 false (.step 9 true (.step 13 true (.step 14 false (.step 15 true (.step 16 false (.nil)))))))))))))))))) hS (by kernel_rfl) (by kernel_rfl) (by rfl) (by kernel_rfl) ?_
              clear hRp hrd hbel k0 k1 k2 hgl
              generalize wr.drew = wv at *
              iterate 12 (refine plan_read rfl (by rfl) (v := ?_) ?_ ?_; rotate_left 1; (intro W hW; (try dsimp only at hW); obtain ⟨hW0, hW1⟩ := hW; go_simp <;> with_reducible rfl); simp only [List.getElem_toArray, List.getElem_cons_zero, List.getElem_cons_succ, Act.put, List.setIfInBounds_toArray, List.set_cons_zero, List.set_cons_succ])
              refine plan_make_of rfl (by rfl) (fun K hK => ?_)
              go_simp
              have hbn := below_new (Below.refl wv.heap.size wv) (.cells #[] 5)
              refine hK.out _ _ ⟨(hbn.cell (p := ⟨gl, ol, none⟩) hgl').trans hS.1, (hbn.cell (p := ⟨gl, ol + 1, none⟩) hgl').trans hS.2.1, (hbn.cell (p := ⟨gl, ol + 2, none⟩) hgl').trans hS.2.2⟩ ?_
              clear hK K
              have hown0 : (wv.alloc (.cells #[] 5)).ownsRow wv.heap.size 5 1 (.slice (some ⟨wv.heap.size, 0, none⟩) 0 0) 0 [] := World.ownsRow_made wv #[] 0 (Nat.le_refl _) (by unfold maxLen; omega) rfl
              refine plan_make_of rfl (by rfl) (fun K hK => ?_)
              refine wp_append_rd _ (.tmp 87) (.tmp 90) 23 rfl wv.heap.size 5 i8 (.int .u8 0) 1 Try.underlying23 hi8 hy0 hy1 hy2 rfl _ _ _ rfl hown0 A' S (c - p) (by rw [HS8.out]; rfl) (hrd'.keep hbn) vB_one (by rw [HS8.out]; unfold maxLen; omega) (by rw [HS8.out]; omega) (by simp) ?_
              intro v7 w7 hown7 hgrow7
              have hb7 : Below wv.heap.size wv w7 := hbn.grown hgrow7 (by simp) (fun k hk => (hown0.lt k hk).1)
              have hS7 : threeP gl ol (.int .u64 (t : Int)) (.int .u64 (e : Int)) (.int .u64 (d : Int)) w7 := ⟨(hb7.cell (p := ⟨gl, ol, none⟩) hgl').trans hS.1, (hb7.cell (p := ⟨gl, ol + 1, none⟩) hgl').trans hS.2.1, (hb7.cell (p := ⟨gl, ol + 2, none⟩) hgl').trans hS.2.2⟩
              refine hK.out _ _ hS7 ?_
              clear hK K
              rw [Nat.zero_add, List.nil_append] at hown7
              obtain ⟨A7, c7, rfl, hc7, hr7⟩ := own_slice hown7
              rw [HS8.out] at hc7 ⊢
              have hA7 := hown7.lt
              have hR7 := hRp'.later hb7
              have hB7 := below_step hbel' hb7
              simp only [List.getElem_toArray, List.getElem_cons_zero, List.getElem_cons_succ, Act.put, List.setIfInBounds_toArray, List.set_cons_zero, List.set_cons_succ]
              clear hown0 hown7 hgrow7 hbn hrd' hRp' hbel'
              iterate 1 (refine plan_read rfl (by rfl) (v := ?_) ?_ ?_; rotate_left 1; (intro W hW; (try dsimp only at hW); obtain ⟨hW0, hW1⟩ := hW; go_simp <;> with_reducible rfl); simp only [List.getElem_toArray, List.getElem_cons_zero, List.getElem_cons_succ, Act.put, List.setIfInBounds_toArray, List.set_cons_zero, List.set_cons_succ])
              have hne : ∀ q : Nat, (⟨gl, q, none⟩ : Addr).block ≠ w.heap.size := fun q => by show gl ≠ w.heap.size; omega
              have hcs : ∀ (q : Nat) (cs : Array Value), (w7.setRow w.heap.size cs).cell? ⟨gl, q, none⟩ = w7.cell? ⟨gl, q, none⟩ := fun q cs => cell_setRow_other w7 w.heap.size cs ⟨gl, q, none⟩ (hne q)
              refine plan_make_of rfl (by rfl) (fun K hK => ?_)
              refine hR7.wp_store 25 (.tmp 2) (.tmp 92) rfl rfl [.int .u64 (t : Int), .int .u64 (e : Int), .int .u64 (d : Int), .slice A7 8 c7] rfl (by exact size_pay) rfl (one_four _ _ _ _ rfl rfl rfl rfl) ?_
              refine hK.out _ _ ⟨(hcs ol _).trans hS7.1, (hcs (ol + 1) _).trans hS7.2.1, (hcs (ol + 2) _).trans hS7.2.2⟩ ?_
              clear hK K hcs hne
              simp only [List.getElem_toArray, List.getElem_cons_zero, List.getElem_cons_succ, Act.put, List.setIfInBounds_toArray, List.set_cons_zero, List.set_cons_succ]
              iterate 1 (refine plan_read rfl (by rfl) (v := ?_) ?_ ?_; rotate_left 1; (intro W hW; (try dsimp only at hW); obtain ⟨hW0, hW1⟩ := hW; go_simp <;> with_reducible rfl); simp only [List.getElem_toArray, List.getElem_cons_zero, List.getElem_cons_succ, Act.put, List.setIfInBounds_toArray, List.set_cons_zero, List.set_cons_succ])
              refine plan_done ?_
              clear hS hS7
              go_wp2_with fail
              refine bodyPost_ret (results_row_tmp (p := 2) (u := 3) (ty := 25) (by rfl) _ _ w.heap.size 25 _ _ (by rfl) (by exact hR7.setRow _) Try.underlying25 (by rfl) (by exact size_pay)) (by rfl) ?_
              have hbl7 : w.heap.size < wv.heap.size := hRp0
              exact ⟨A7, 8, c7, rfl, HS8, hc7, hr7.setRow _ (fun a ha => by have := (hA7 a.block (by rw [ha]; rfl)).1; omega), below_setRow hB7 (Nat.le_refl _) _⟩
    · have hF3 : F = (3, 0, 0, 0, []) := by rw [hrF, if_pos h87]
      have hx2 : x.toNat ≠ 87 := fun e => h87 (UInt8.toNat_inj.1 e)
      have hx3 : ((x.toNat : Int) == 87) = false := beq_eq_false_iff_ne.2 (by omega)
      have hx4 : ((x.toNat : Int) != 87) = true := by rw [bne, hx3]; rfl
      generalize x.toNat = xn at hx0 hx2 hx3 hx4
      clear hrF hdr hcell h87
      have hF : F = (3, 0, 0, 0, []) := hF3
      subst hF
      go_wp2_with (refine wpList_store_row rfl 25 (.tmp 2) (.tmp 16) rfl w.heap.size rfl [.int .u64 0, .int .u64 0, .int .u64 0, .slice none 0 0] rfl _ _ hR0 (by exact size_pay) rfl (one_four _ _ _ _ rfl rfl rfl rfl) ?_)
      refine bodyPost_ret (results_row_tmp (p := 2) (u := 3) (ty := 25) (by rfl) _ _ w.heap.size 25 _ _ (by rfl) (by exact hR0.setRow _) Try.underlying25 (by rfl) (by exact size_pay)) (by rfl) ?_
      exact ⟨none, 0, 0, rfl, Lib.hid rfl, Nat.le_refl _, Rd.nil, below_setRow hB0 (Nat.le_refl _) _⟩
end Go.Proofs.Ytobeaoooaagdkaa
