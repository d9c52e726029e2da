/-
  The walk of the law SolomonSums: sums and multiples of what is fine are fine, by fewer checks, too; what isn't fine isn't what it is with its own checks. No conditions.
-/
import Derived.Test.YtfpoedapeoimbaaSolFine
namespace Go.Proofs.Ytfpoedapeoimbaa
set_option maxRecDepth 100000
open Go.RowKit
set_option linter.unusedSimpArgs false
set_option linter.unusedVariables false

/-! ### Plain, and zeros behind it again -/
theorem eqv_same_len : ∀ (p q : List UInt8), p.length = q.length → Eqv p q → p = q
  | [], [], _, _ => rfl
  | [], _ :: _, h, _ => by simp at h
  | _ :: _, [], h, _ => by simp at h
  | a :: p, b :: q, h, e => by
    obtain ⟨e1, e2⟩ := e.tail
    rw [e1, eqv_same_len p q (by simpa using h) e2]
theorem plain_pad (p : List UInt8) : plainL p ++ List.replicate (p.length - (plainL p).length) 0 = p := by
  refine eqv_same_len _ _ ?_ (fun k => by rw [co_pad]; exact plain_eqv p k)
  have := plain_len p
  rw [List.length_append, List.length_replicate]
  omega
/-! ### Fine just with its own checks -/
theorem fine_own (a : List UInt8) (len k : Nat) (hl : a.length = len) (h1 : 1 ≤ k) (h2 : k ≤ 64) (h3 : k ≤ len) (h4 : len ≤ 255) : fineS a (k : Int) = ((strL (putS (a.take (len - k)) k)).toList == (strL a).toList) := by
  rw [strL_toList, strL_toList, Bool.eq_iff_iff, beq_iff_eq, fineS_iff a k h1 h2 (by omega) (by omega)]
  have hd : (a.drop (len - k)).length = k := by rw [List.length_drop]; omega
  constructor
  · intro hf
    have := putS_only (a.take (len - k)) (a.drop (len - k)) k h1 hd (by rw [List.length_take]; omega) (by rw [List.take_append_drop]; exact hf)
    rw [← this, List.take_append_drop]
  · intro e
    rw [← e]
    exact putS_fine _ _ h1
/-! ### A row set from its beginning -/
theorem mix_up (L R : List UInt8) (k : Nat) (h : L.length = R.length) (hk : k < L.length) : (mixL L R k).set k (co L k) = mixL L R (k + 1) := by
  unfold mixL
  have e : L.take (k + 1) = L.take k ++ [L[k]] := List.take_succ_eq_append_getElem hk
  have e2 : R.drop k = R[k]'(by omega) :: R.drop (k + 1) := List.drop_eq_getElem_cons (by omega)
  have hl : (L.take k).length = k := by rw [List.length_take]; omega
  rw [e, e2, List.append_assoc, List.set_append_right _ _ (by omega), hl, Nat.sub_self, co_lt L k hk]
  rfl
def SumR (Z : List UInt8) (gz : Nat) (wb : World) (iv : Value) (wr : World) : Prop :=
  ∃ j : Nat, j ≤ Z.length ∧ iv = .int .i64 (j : Int) ∧ Cel wr gz 5 (mixL Z (List.replicate Z.length 0) j) ∧ Below wb.heap.size wb wr
def PadZ (p : List UInt8) (N base : Nat) (wb : World) (v : Value) (wr : World) : Prop :=
  ∃ q : Nat, p.length ≤ q ∧ q ≤ N ∧ wr.ownsRow base 5 1 v q ((p ++ List.replicate (q - p.length) 0).map vB) ∧ Below wb.heap.size wb wr ∧ wb.heap.size ≤ base
theorem padz_round {p : List UInt8} {N base q : Nat} {wb wr w1 : World} {u v : Value} (hq : q < N) (hn : p.length ≤ q) (ho : wr.ownsRow base 5 1 u q ((p ++ List.replicate (q - p.length) 0).map vB)) (hb : Below wb.heap.size wb wr) (hbase : wb.heap.size ≤ base)
    (ho' : w1.ownsRow base 5 1 v (q + 1) ((p ++ List.replicate (q - p.length) 0).map vB ++ [.int .u8 0])) (hg : (wr.alloc (.cells #[.int .u8 0] 5)).grownBy w1 u.ownBlock) : PadZ p N base wb v w1 := by
  refine ⟨q + 1, by omega, by omega, ?_, (below_new hb _).grown hg (by have := hb.size; simp; omega) (fun k hk => Nat.le_trans hbase (ho.lt k hk).1), hbase⟩
  have e : (p ++ List.replicate (q + 1 - p.length) 0).map vB = (p ++ List.replicate (q - p.length) 0).map vB ++ [.int .u8 0] := by
    rw [show q + 1 - p.length = (q - p.length) + 1 by omega, List.replicate_succ']
    simp [vB]
  rw [e]
  exact ho'

set_option maxRecDepth 100000 in
set_option maxHeartbeats 4000000 in
theorem solsums_core (a b : List UInt8) (n m by' : UInt8) (la lb : Nat) (A B : Option Addr) (ca cb : Nat) (w : World) (HA : Hid (a.length = la)) (HB : Hid (b.length = lb)) (hra : Rd vB w A a) (hrb : Rd vB w B b) (hca : la ≤ ca) (hcb : lb ≤ cb) :
    Calls Try.prog 5 #[.slice A la ca, .slice B lb cb, .int .u8 (n.toNat : Int), .int .u8 (m.toNat : Int), .int .u8 (by'.toNat : Int)] w fun e w' => e = .returned (.bool true) ∧ Below w.heap.size w w' := by
  obtain ⟨i0, hi, hz0, hz1, hz2⟩ := info_parts info_u8
  obtain ⟨k, hk⟩ : ∃ k : Nat, k = n.toNat % 64 + 1 := ⟨_, rfl⟩
  have h1 : 1 ≤ k := by omega
  have h2 : k ≤ 64 := by omega
  have hn : n.toNat < 256 := n.toNat_lt
  have hki : (n.toNat : Int) % 64 + 1 = (k : Int) := by omega
  have hwn : IntKind.i64.wrap (n.toNat : Int) = (n.toNat : Int) := by rw [IntKind.wrap_i64]; omega
  have hwk : IntKind.i64.wrap (k : Int) = (k : Int) := by rw [IntKind.wrap_i64]; omega
  generalize n.toNat = nn at hk hki hwn hn ⊢
  have hm : m.toNat < 256 := m.toNat_lt
  have hwm : IntKind.i64.wrap (m.toNat : Int) = (m.toNat : Int) := by rw [IntKind.wrap_i64]; omega
  generalize m.toNat = mm at hm hwm ⊢
  have HK := Lib.hid hk
  clear hk
  go_enter Try.func5, Try.ntmps5
  go_wp2_with fail
  refine (awake9_any _).mono ?_
  rintro e w1 ⟨rfl, hB⟩
  replace hra := hra.keep hB
  replace hrb := hrb.keep hB
  by_cases hll : la = lb
  · subst hll
    by_cases hlen : 255 - (k : Int) < (la : Int)
    · go_wp2_with fail
      go_ret
      exact ⟨rfl, hB⟩
    · go_wp2_with fail
      refine (putS_ok a la k A ca _ HA hra hca h1 h2 (by omega)).mono ?_
      rintro e w2 ⟨A2, n2, c2, rfl, HN2, hc2, hr2, hb2⟩
      have HLA : Hid (n2 = la + k) := by unfold Hid; rw [← HN2.out, putS_length a k h1, HA.out]
      replace hra := hra.keep hb2
      replace hrb := hrb.keep hb2
      replace hB := below_step hB hb2
      clear hb2
      go_wp2_with fail
      refine (putS_ok b la k B cb _ HB hrb hcb h1 h2 (by omega)).mono ?_
      rintro e w3 ⟨A3, n3, c3, rfl, HN3, hc3, hr3, hb3⟩
      have hn3 : n3 = n2 := by rw [← HN3.out, putS_length b k h1, HB.out, HLA.out]
      subst hn3
      replace hra := hra.keep hb3
      replace hr2 := hr2.keep hb3
      replace hB := below_step hB hb3
      clear hb3 hrb
      have hfx := putS_fine a k h1
      have hfy := putS_fine b k h1
      generalize putS a k = X at HN2 hr2 hfx
      generalize putS b k = Y at HN3 hr3 hfy
      have hlXY : X.length = Y.length := by rw [HN2.out, HN3.out]
      have hn255 : n3 ≤ 255 := by have := HLA.out; omega
      have hkn : k ≤ n3 := by have := HLA.out; omega
      clear hki
      go_wp2_with (at_make; refine wpList_make_full _ rfl _ _ 22 rfl w3.heap.size 5 i0 (.int .u8 0) 1 Try.underlying22 hi hz0 hz1 .i64 .i64 _ _ n3 rfl rfl rfl rfl (by rw [hz2]; omega) (by unfold maxLen; omega) (Nat.le_refl _) ?_; intro w4 hown4 hgrow4)
      obtain ⟨_, hown5⟩ := rd_zeros w3 w4 n3 n3 _ _ (by rw [Nat.mul_one] at hown4; exact hown4)
      obtain ⟨g1, hg1, _, hcel0⟩ := cel_of_own hown5 List.length_replicate (by omega)
      have eg : w3.heap.size = g1 := by injection hg1 with hg1; injection hg1
      have hB4 : Below w3.heap.size w3 w4 := (Below.refl _ _).grown hgrow4 (Nat.le_refl _) (by simp)
      have hgr : w3.heap.size ≤ g1 := by omega
      rw [eg]
      clear hown4 hown5 hgrow4 hg1 eg
      obtain ⟨Z, hZ⟩ : ∃ Z, List.zipWith addB X Y = Z := ⟨_, rfl⟩
      have hZl : Z.length = n3 := by rw [← hZ, List.length_zipWith, HN2.out, HN3.out, Nat.min_self]
      have hZc : ∀ i, i < n3 → co Z i = xorB (co X i) (co Y i) := fun i hi => by
        rw [← hZ]
        exact co_zip X Y i (by rw [HN2.out]; exact hi) (by rw [HN3.out]; exact hi)
      have hfz : fineP Z k := by rw [← hZ]; exact hfx.xor hfy hlXY
      have HZC := Lib.hid hZc
      have HFZ := Lib.hid hfz
      have HZL := Lib.hid hZl
      have HFX := Lib.hid hfx
      clear hZ hZc hfz hfx hfy
      go_loopw [17] (fun i wr => SumR Z g1 w3 i wr) (fun i _ => n3 - (intOf i).toNat)
      case atStart => exact ⟨0, Nat.zero_le _, rfl, by rw [mix_none, hZl]; exact hcel0, hB4⟩
      case round =>
        clear hcel0 hB4
        obtain ⟨j, hj, rfl, hcel, hbr⟩ := hrel
        by_cases h : j < n3
        · have j1 : (j : Int) < (n3 : Int) := by omega
          have j0 : (0 : Int) ≤ (j : Int) := by omega
          have hjx : j < X.length := by rw [HN2.out]; exact h
          have hjy : j < Y.length := by rw [HN3.out]; exact h
          obtain ⟨gx, ox, rfl, hgx, hcx⟩ := hr2.at hjx
          obtain ⟨gy, oy, rfl, hgy, hcy⟩ := hr3.at hjy
          have hc1 : wr.cell? ⟨gx, ox + j, none⟩ = some (.int .u8 ((co X j).toNat : Int)) := by rw [co_lt X j hjx]; exact (hbr.cell (p := ⟨gx, ox + j, none⟩) hgx).trans (hcx j hjx)
          have hc2' : wr.cell? ⟨gy, oy + j, none⟩ = some (.int .u8 ((co Y j).toNat : Int)) := by rw [co_lt Y j hjy]; exact (hbr.cell (p := ⟨gy, oy + j, none⟩) hgy).trans (hcy j hjy)
          have hml : (mixL Z (List.replicate Z.length 0) j).length = Z.length := mix_length _ _ _ (by rw [List.length_replicate])
          have hcq := hcel.get j (by rw [hml, HZL.out]; exact h)
          have hfq := hcel.frozen j
          have hcs := hcel.drew.set j (co Z j)
          rw [mix_up Z _ j (by rw [List.length_replicate]) (by rw [HZL.out]; exact h)] at hcs
          have hx := u8_xor_b (co X j) (co Y j)
          rw [← HZC.out j h] at hx
          have HREL : Hid (SumR Z g1 w3 (.int .i64 ((j : Int) + 1)) (wr.drew.setCell ⟨g1, j, none⟩ (.int .u8 ((co Z j).toNat : Int)))) :=
            ⟨j + 1, by rw [HZL.out]; exact h, by go_num, hcs, (hbr.drew).setCell (p := ⟨g1, j, none⟩) hgr _⟩
          generalize co Z j = z at hx HREL
          generalize co X j = x at hc1 hx
          generalize co Y j = y at hc2' hx
          generalize co (mixL Z (List.replicate Z.length 0) j) j = zz at hcq
          clear hcs hcel hbr hcx hcy hml hj hZl
          go_upto_region 14 with fail
          refine wp_region_still_tail 12 (by kernel_rfl) (by kernel_rfl) ?_
          simp only [List.take_succ_cons, List.take_zero, List.drop_succ_cons, List.drop_zero]
          repeat still_step
          refine wpStill_nil ?_
          change wpList _ _ _ _ _ wr.drew
          go_wp2_with fail
          go_roundw
          case rel => exact HREL.out
          case measure => simp [intOf] <;> omega
        · rename World => wz
          have ej : j = Z.length := by omega
          have hcelZ : Cel wz g1 5 Z := by
            have := hcel
            rw [ej, mix_all Z _ (by rw [List.length_replicate])] at this
            exact this
          have hrz := hcelZ.rd
          have j1 : ¬ (j : Int) < (n3 : Int) := by omega
          replace hra := hra.keep hbr
          replace hr2 := hr2.keep hbr
          replace hB := below_step hB hbr
          clear hcel hcelZ hbr hr3 ej
          go_wp2_with fail
          refine (timesP_own by' X n3 A2 c2 _ HN2 hr2 hc2 (by omega)).mono ?_
          rintro e w5 ⟨v5, rfl, hown5, hb5⟩
          obtain ⟨T, hT⟩ : ∃ T, scaleL by' X = T := ⟨_, rfl⟩
          have hTl : T.length = n3 := by rw [← hT, scaleL, List.length_map, HN2.out]
          have hfT : fineP T k := by rw [← hT]; exact HFX.out.scale by'
          rw [hT] at hown5
          obtain ⟨P, hP⟩ : ∃ P, plainL T = P := ⟨_, rfl⟩
          have hPl : P.length ≤ n3 := by rw [← hP, ← hTl]; exact plain_len T
          have hPT : P ++ List.replicate (n3 - P.length) 0 = T := by rw [← hP, ← hTl]; exact plain_pad T
          rw [hP] at hown5
          have HPT := Lib.hid hPT
          have HTL := Lib.hid hTl
          have HFT := Lib.hid hfT
          clear hT hP hPT hTl hfT
          have HPZ : Hid (PadZ P n3 wz.heap.size wz v5 w5) := ⟨P.length, Nat.le_refl _, hPl, by rw [Nat.sub_self, List.replicate_zero, List.append_nil]; exact hown5, hb5, Nat.le_refl _⟩
          clear hown5 hb5
          go_wp2_with fail
          go_loopw [18] (fun v wr => PadZ P n3 wz.heap.size wz v wr) (fun v _ => n3 - sliceLen v)
          case atStart => exact HPZ.out
          case round =>
            clear HPZ
            obtain ⟨q, hq1, hq2, hown, hbr, hbase⟩ := hrel
            obtain ⟨A6, c6, rfl, hc6⟩ := own_form hown
            by_cases hlt : q < n3
            · have hlt' : (q : Int) < (n3 : Int) := by omega
              have hsz := hbr.size
              go_wp2_with (at_builtin; refine wpList_append_own _ rfl (.tmp 93) (.tmp 94) 22 rfl wz.heap.size 5 i0 (.int .u8 0) 1 1 Try.underlying22 hi hz0 hz1 hz2 rfl (by decide) _ _ _ rfl (hown.alloc _) ⟨wr.heap.size, 0, none⟩ 1 1 [.int .u8 0] rfl rfl (cell_one_new _ _ _) (by intro u hu; simp at hu; subst hu; rfl) (by unfold maxLen; omega) (by omega) (by simp; omega) ?_; intro v' w6 hown6 hgrow6 _)
              have HR := Lib.hid (padz_round hlt hq1 hown hbr hbase hown6 hgrow6)
              obtain ⟨A7, c7, rfl, _⟩ := own_form hown6
              clear hown6 hgrow6 hown hbr
              go_roundw
              case rel => exact HR.out
              case measure => simp [sliceLen]; omega
            · have eq : q = n3 := by omega
              have hrt : Rd vB wr A6 T := by
                have := hown
                rw [eq, HPT.out] at this
                exact Rd.own this
              have hlt' : ¬ (q : Int) < (n3 : Int) := by omega
              clear HPT hPl hq1 hq2
              subst eq
              replace hra := hra.keep hbr
              replace hr2 := hr2.keep hbr
              replace hrz := hrz.keep hbr
              replace hB := below_step hB hbr
              clear hown hbr hbase
              have HFZ1 : Hid (fineS Z (k : Int) = true) := (fineS_iff Z k h1 h2 (by rw [HZL.out]; exact hkn) (by rw [HZL.out]; exact hn255)).2 HFZ.out
              have HFT1 : Hid (fineS T (k : Int) = true) := (fineS_iff T k h1 h2 (by rw [HTL.out]; exact hkn) (by rw [HTL.out]; exact hn255)).2 HFT.out
              obtain ⟨r, hr⟩ : ∃ r, r = mm % k := ⟨_, rfl⟩
              have hrk : r < k := by rw [hr]; exact Nat.mod_lt _ (by omega)
              have HFX1 : Hid (fineS X ((r : Int) + 1) = true) := (fineS_iff X (r + 1) (by omega) (by omega) (by rw [HN2.out]; omega) (by rw [HN2.out]; exact hn255)).2 (HFX.out.less (by omega))
              have m1 : (mm : Int) % (k : Int) = (r : Int) := by rw [hr]; omega
              have m2 : (mm : Int).tmod (k : Int) = (r : Int) := by rw [Int.tmod_eq_emod_of_nonneg (by omega)]; exact m1
              have m3 : ((k : Int) == 0) = false := beq_eq_false_iff_ne.2 (by omega)
              clear hr
              have HX := Lib.hid (And.intro hra (And.intro hr2 (And.intro hrt hB)))
              clear hra hr2 hrt hB
              go_wp2_with fail
              refine (fineS_any Z q (k : Int) _ q _ HZL hrz (Nat.le_refl _) (by omega)).mono ?_
              rintro e w7 ⟨rfl, hb7⟩
              rw [HFZ1.out]
              go_wp2_with fail
              refine (fineS_any T q (k : Int) _ c6 _ HTL (HX.out.2.2.1.keep hb7) hc6 (by omega)).mono ?_
              rintro e w8 ⟨rfl, hb8⟩
              rw [HFT1.out]
              go_wp2_with fail
              refine (fineS_any X q ((r : Int) + 1) _ c2 _ HN2 (HX.out.2.1.keep (below_step hb7 hb8)) hc2 (by omega)).mono ?_
              rintro e w9 ⟨rfl, hb9⟩
              rw [HFX1.out]
              have hb := below_step (below_step hb7 hb8) hb9
              have hra := HX.out.1.keep hb
              have hB := below_step HX.out.2.2.2 hb
              clear hb7 hb8 hb9 hb HX hrz m1 m2 m3
              by_cases hsh : (la : Int) < (k : Int)
              · go_wp2_with fail
                go_ret
                exact ⟨rfl, hB⟩
              · obtain ⟨l, hl⟩ : ∃ l, l = la - k := ⟨_, rfl⟩
                have hlk : (la : Int) - (k : Int) = (l : Int) := by omega
                have hlw : IntKind.i64.wrap (l : Int) = (l : Int) := by rw [IntKind.wrap_i64]; omega
                have hl0 : (0 : Int) ≤ (l : Int) := by omega
                have hlca : l ≤ ca := by omega
                have hlci : (l : Int) ≤ (ca : Int) := by omega
                have hcut := fun W => run_cut_to (P := Try.prog) 22 5 Try.underlying22 size_uint8 A la ca l hlca W
                have hrl := hra.take l
                have HLL : Hid ((a.take l).length = l) := by unfold Hid; rw [List.length_take, HA.out]; omega
                have HFO : Hid (fineS a (k : Int) = ((strL (putS (a.take l) k)).toList == (strL a).toList)) := by rw [hl]; exact fine_own a la k HA.out h1 h2 (by omega) (by omega)
                generalize a.take l = al at hrl HLL HFO
                have HL := Lib.hid hl
                clear hl
                go_wp2_with fail
                refine (putS_ok al l k A ca _ HLL hrl hlca h1 h2 (by have := HL.out; omega)).mono ?_
                rintro e w10 ⟨A10, n10, c10, rfl, HN10, hc10, hr10, hb10⟩
                generalize putS al k = O at HN10 hr10 HFO
                replace hra := hra.keep hb10
                replace hB := below_step hB hb10
                clear hb10 hrl hcut
                generalize hfa : fineS a (k : Int) = E at HFO
                have HFA := Lib.hid hfa
                have hst := HFO.out
                clear hfa
                have hs1 := strS (c := c10) n10 HN10 hr10
                have hs2 := strS (c := ca) la HA hra
                have HX := Lib.hid (And.intro hra hB)
                clear hra hB
                go_upto_region 23 with fail
                have hBase := (Below.refl w10.heap.size w10).drew
                refine wp_region_plan (.step 0 false (.step 1 false (.step 2 false (.step 3 false (.step 4 false (.step 6 false (.step 7 false (.step 8 false (.step 9 false (.step 10 false (.step 5 true (.step 11 false (.step 12 false (.step 13 false (.nil))))))))))))))) (by kernel_rfl) (by kernel_rfl) (by rfl) (by kernel_rfl) ?_
                iterate 10 (refine plan_read rfl (by rfl) (v := ?_) ?_ ?_; rotate_left 1; (intro W hW; have hW0 := below_step hBase hW; (try dsimp only at hW); go_simp <;> with_reducible rfl); simp only [List.getElem_toArray, List.getElem_cons_zero, List.getElem_cons_succ, Act.put, List.setIfInBounds_toArray, List.set_cons_zero, List.set_cons_succ])
                (refine plan_make rfl (by rfl) (fun K hK => ?_); go_simp; (refine (fineS_any a la (k : Int) A ca _ HA (HX.out.1.keep hBase) hca (by omega)).mono ?_; rintro e w11 ⟨rfl, hbx⟩; rw [HFA.out]); refine hK.out _ _ hbx ?_; clear hK K; replace hBase := below_step hBase hbx)
                iterate 3 (refine plan_read rfl (by rfl) (v := ?_) ?_ ?_; rotate_left 1; (intro W hW; have hW0 := below_step hBase hW; (try dsimp only at hW); go_simp <;> with_reducible rfl); simp only [List.getElem_toArray, List.getElem_cons_zero, List.getElem_cons_succ, Act.put, List.setIfInBounds_toArray, List.set_cons_zero, List.set_cons_succ])
                refine plan_done ?_
                clear hs1 hs2
                go_wp2_with fail
                go_ret
                exact ⟨rfl, below_step HX.out.2 hBase⟩
  · have hne : ((la : Int) == (lb : Int)) = false := beq_eq_false_iff_ne.2 (by omega)
    have hne2 : ((la : Int) != (lb : Int)) = true := by rw [bne, hne]; rfl
    go_wp2_with fail
    go_ret
    exact ⟨rfl, hB⟩
end Go.Proofs.Ytfpoedapeoimbaa
