/-
  What the reference's calls value and Put of layer 11 answer. No conditions but those typed.
-/
import Derived.Test.YtaknikbnajkccaaStuffRef
namespace Go.Proofs.Ytaknikbnajkccaa
set_option maxRecDepth 100000
open Go.RowKit
set_option linter.unusedSimpArgs false
set_option linter.unusedVariables false

def valT (l : List Bool) : UInt8 := l.foldl (fun v x => 2 * v + oneB x) 0
theorem valT_snoc (l : List Bool) (x : Bool) : valT (l ++ [x]) = 2 * valT l + oneB x := by unfold valT; rw [List.foldl_append]; rfl
theorem u8_two (v x : UInt8) : ((2 * v + x).toNat : Int) = (2 * (v.toNat : Int) % 256 + (x.toNat : Int)) % 256 := by
  rw [UInt8.toNat_add, UInt8.toNat_mul]
  have : (2 : UInt8).toNat = 2 := rfl
  rw [this]
  omega
def ValR (l : List Bool) (w : World) (v i : Value) (wr : World) : Prop :=
  ∃ j : Nat, j ≤ 8 ∧ i = .int .i64 (j : Int) ∧ v = .int .u8 ((valT (l.take j)).toNat : Int) ∧ w = wr
theorem refvalue_any (l : List Bool) (A : Option Addr) (c : Nat) (w : World) (hl : l.length = 8) (hr : Rd vB w A (oneL l)) :
    Calls Try.prog 15 #[.slice A 8 c] w fun e w' => e = .returned (.int .u8 ((val8 l).toNat : Int)) ∧ w = w' := by
  go_enter Try.func15, Try.ntmps15
  go_wp2_with fail
  go_loopw [3, 4] (fun v i wr => ValR l w v i wr) (fun _ i _ => 8 - (intOf i).toNat)
  case atStart => exact ⟨0, by omega, rfl, rfl, rfl⟩
  case round =>
    obtain ⟨j, hj, rfl, rfl, rfl⟩ := hrel
    by_cases h : j < 8
    · have hjl : j < l.length := by omega
      have hjo : j < (oneL l).length := by rw [one_length]; exact hjl
      obtain ⟨g, o, rfl, hg, hcell⟩ := hr.at hjo
      have hc0 := hcell j hjo
      have e : (oneL l)[j] = oneB l[j] := by simp [oneL]
      rw [e] at hc0
      unfold vB at hc0
      have HE : Hid (valT (l.take (j + 1)) = 2 * valT (l.take j) + oneB l[j]) := by
        unfold Hid
        rw [List.take_succ_eq_append_getElem hjl, valT_snoc]
      generalize oneB l[j] = x at hc0 HE
      have hu := u8_two (valT (l.take j)) x
      generalize valT (l.take j) = v at HE hu ⊢
      have j1 : (j : Int) < 8 := by omega
      have j0 : (0 : Int) ≤ (j : Int) := by omega
      have HR : Hid (ValR l w (.int .u8 (((2 * v + x).toNat : Nat) : Int)) (.int .i64 ((j : Int) + 1)) w) := ⟨j + 1, h, by go_num, by rw [HE.out], rfl⟩
      generalize (2 * v + x).toNat = r at hu HR
      have hu' := hu.symm
      clear hcell e hu
      go_wp2_with fail
      go_roundw
      case rel => rw [hu']; exact HR.out
      case measure => simp [intOf] <;> omega
    · have ej : j = 8 := by omega
      subst ej
      rw [List.take_of_length_le (by omega)]
      have HV : Hid (valT l = val8 l) := rfl
      rw [HV.out]
      have j1 : ¬ (8 : Int) < 8 := by omega
      go_wp2_with fail
      go_ret
      exact ⟨rfl, rfl⟩

/-! ### Put -/
def cntT (l : List Bool) : Nat := (l.filter id).length
theorem cnt_snoc (l : List Bool) (x : Bool) : cntT (l ++ [x]) = cntT l + (oneB x).toNat := by
  unfold cntT
  rw [List.filter_append, List.length_append]
  cases x <;> rfl
theorem cnt_seven : ∀ a b c d e f g : Bool, (cntT [a, b, c, d, e, f, g] = 0 ↔ [a, b, c, d, e, f, g] = List.replicate 7 false) ∧ (cntT [a, b, c, d, e, f, g] = 7 ↔ [a, b, c, d, e, f, g] = List.replicate 7 true) ∧ cntT [a, b, c, d, e, f, g] ≤ 7 := by decide +kernel
theorem cnt_g7 (M : List Bool) : (cntT (g7 M) = 0 ↔ g7 M = List.replicate 7 false) ∧ (cntT (g7 M) = 7 ↔ g7 M = List.replicate 7 true) ∧ cntT (g7 M) ≤ 7 := cnt_seven _ _ _ _ _ _ _
theorem g7_take (M : List Bool) : ∀ j, j < 7 → (g7 M).take (j + 1) = (g7 M).take j ++ [M.getD j true]
  | 0, _ => rfl
  | 1, _ => rfl
  | 2, _ => rfl
  | 3, _ => rfl
  | 4, _ => rfl
  | 5, _ => rfl
  | 6, _ => rfl
  | j + 7, h => by omega
theorem drop_getD (L : List Bool) (p j : Nat) : (L.drop p).getD j true = L.getD (p + j) true := by
  rw [List.getD_eq_getElem?_getD, List.getD_eq_getElem?_getD, List.getElem?_drop]
theorem getD_lt (L : List Bool) (i : Nat) (h : i < L.length) : L.getD i true = L[i] := by
  rw [List.getD_eq_getElem?_getD, List.getElem?_eq_getElem h]
  rfl
def PutO (L : List Bool) (w : World) (v at' : Value) (wr : World) : Prop :=
  ∃ (O : List UInt8) (p : Nat), at' = .int .i64 (p : Int) ∧ p ≤ L.length + 8 ∧ wr.ownsRow w.heap.size 5 1 v O.length (O.map vB) ∧ Hid (O ++ stuffL (L.drop p) = stuffL L) ∧ Below w.heap.size w wr
def PutG (M : List Bool) (w : World) (g sum i : Value) (wr : World) : Prop :=
  ∃ j : Nat, j ≤ 7 ∧ i = .int .i64 (j : Int) ∧ sum = .int .i64 (cntT ((g7 M).take j) : Int) ∧ wr.ownsRow w.heap.size 5 1 g j ((oneL ((g7 M).take j)).map vB) ∧ Below w.heap.size w wr

theorem putO_next {L M : List Bool} {O : List UInt8} {p t : Nat} {c : UInt8} (HO : O ++ stuffL M = stuffL L) (HSC : stuffL M = c :: stuffL (M.drop (taken M))) (HLD : M.drop (taken M) = L.drop (p + taken M)) (ht : taken M = t) : (O ++ [c]) ++ stuffL (L.drop (p + t)) = stuffL L := by
  rw [← HO, HSC, HLD, ht, List.append_assoc]
  rfl

set_option maxHeartbeats 4000000 in
theorem refputT_any (b : List UInt8) (n : Nat) (A : Option Addr) (c : Nat) (w : World) (HN : Hid (b.length = n)) (hr : Rd vB w A b) (hn : n ≤ 100000) :
    Calls Try.prog 10 #[.slice A n c] w (RetY w (putT b)) := by
  obtain ⟨i0, hi, hz0, hz1, hz2⟩ := info_parts info_u8
  go_enter Try.func10, Try.ntmps10
  go_wp2_with fail
  refine (refbits_any b n A c _ HN hr (by omega)).mono ?_
  rintro e w1 ⟨A1, n1, c1, rfl, HN1, hc1, hr1, hb1⟩
  have hLl : (bitsL b).length = n1 := by rw [← HN1.out, one_length]
  have hn1 : n1 ≤ 800000 := by rw [← hLl, bits_length, HN.out]; omega
  have HPL : Hid (stuffL (bitsL b) = putT b) := rfl
  have hSl : (stuffL (bitsL b)).length ≤ 200000 := by
    have := (put_length b).2
    unfold putT at this
    rw [HN.out] at this
    omega
  generalize bitsL b = L at HN1 hr1 hLl HPL hSl
  subst hLl
  have HB1 := Lib.hid hb1
  have HSL := Lib.hid hSl
  clear hb1 hr HN1 hSl
  go_wp2_with fail
  go_loopw [4, 5] (fun v at' wr => PutO L w1 v at' wr) (fun _ at' _ => L.length - (intOf at').toNat)
  case atStart => exact ⟨[], 0, rfl, by omega, World.ownsRow_nil _ _ _ _, Lib.hid rfl, Below.refl _ _⟩
  case round =>
    obtain ⟨O, p, rfl, hp8, hown, HO, hbel⟩ := hrel
    by_cases h : p < L.length
    · have p1 : (p : Int) < (L.length : Int) := by omega
      have hOl : O.length ≤ 200000 := by
        have := congrArg List.length HO.out
        rw [List.length_append] at this
        have := HSL.out
        omega
      have hM0 : L.drop p ≠ [] := by
        intro e
        have := congrArg List.length e
        rw [List.length_drop, List.length_nil] at this
        omega
      have HSC := Lib.hid (stuff_cons (L.drop p) hM0)
      have HGD : Hid (∀ j, (L.drop p).getD j true = L.getD (p + j) true) := fun j => drop_getD L p j
      have hLD : (L.drop p).drop (taken (L.drop p)) = L.drop (p + taken (L.drop p)) := by rw [List.drop_drop]
      have HLD := Lib.hid hLD
      generalize hM : L.drop p = M at HSC HGD HO HLD
      clear hM0 hLD hM
      rename World => wo
      go_wp2_with fail
      go_loopw [6, 7, 8] (fun g s i wr => PutG M wo g s i wr) (fun _ _ i _ => 7 - (intOf i).toNat)
      case atStart => exact ⟨0, by omega, rfl, rfl, World.ownsRow_nil _ _ _ _, Below.refl _ _⟩
      case round =>
        obtain ⟨j, hj, rfl, rfl, hg, hbg⟩ := hrel
        have hle := hbg.size
        by_cases hj7 : j < 7
        · have j1 : (j : Int) < 7 := by omega
          have j0 : (0 : Int) ≤ (j : Int) := by omega
          obtain ⟨q, hq⟩ : ∃ q, M.getD j true = q := ⟨_, rfl⟩
          have HGT := Lib.hid (g7_take M j hj7)
          rw [hq] at HGT
          have hct : cntT ((g7 M).take (j + 1)) = cntT ((g7 M).take j) + (oneB q).toNat := by rw [HGT.out, cnt_snoc]
          have hq2 : L.getD (p + j) true = q := by rw [← HGD.out j, hq]
          have hcl : cntT ((g7 M).take j) ≤ 7 := by
            unfold cntT
            refine Nat.le_trans (List.length_filter_le _ _) ?_
            rw [List.length_take]
            omega
          obtain ⟨x, hx⟩ : ∃ x, oneB q = x := ⟨_, rfl⟩
          rw [hx] at hct
          obtain ⟨C, hC⟩ : ∃ C, cntT ((g7 M).take j) = C := ⟨_, rfl⟩
          rw [hC] at hct hcl ⊢
          have HCT := Lib.hid hct
          have HXQ := Lib.hid hx
          have hx2 : x.toNat ≤ 1 := by rw [← hx]; cases q <;> decide
          have hwx : IntKind.i64.wrap (x.toNat : Int) = (x.toNat : Int) := by rw [IntKind.wrap_i64]; omega
          clear hct hC hq
          by_cases hin : p + j < L.length
          · have hin1 : (p : Int) + (j : Int) < (L.length : Int) := by omega
            have hin0 : (0 : Int) ≤ (p : Int) + (j : Int) := by omega
            have hio : p + j < (oneL L).length := by rw [one_length]; exact hin
            obtain ⟨gb, ob, rfl, hgb, hcb⟩ := hr1.at hio
            have hcell : wr.cell? ⟨gb, ob + (p + j), none⟩ = some (.int .u8 (x.toNat : Int)) := by
              have e1 : (oneL L)[p + j] = x := by
                rw [← hx, ← hq2, getD_lt L _ hin]
                simp [oneL]
              have := (below_step hbel hbg).cell (p := ⟨gb, ob + (p + j), none⟩) hgb
              rw [this, hcb (p + j) hio, e1]
              rfl
            clear hcb hq2 hx hio
            go_wp2_with (at_builtin; refine wpList_append_own _ rfl _ _ 22 rfl wo.heap.size 5 i0 (.int .u8 0) 1 1 Try.underlying22 hi hz0 hz1 hz2 rfl (by decide) _ _ _ rfl (hg.alloc _) ⟨wr.heap.size, 0, none⟩ 1 1 [.int .u8 (x.toNat : Int)] rfl rfl (cell_one_new _ _ _) (by intro u hu; simp at hu; subst hu; rfl) (by unfold maxLen; omega) (by omega) (by simp; omega) ?_; intro v' w3 hown' hgrow' _)
            have hB3 : Below wo.heap.size wo w3 := (hbg.alloc hbg.size _).grown hgrow' (by simp; omega) (fun g hk => (hg.lt g hk).1)
            have hon : w3.ownsRow wo.heap.size 5 1 v' (j + 1) ((oneL ((g7 M).take (j + 1))).map vB) := by
              rw [HGT.out, one_append, List.map_append]
              have e : (oneL [q]).map vB = [.int .u8 (x.toNat : Int)] := by rw [← HXQ.out]; rfl
              rw [e]
              exact hown'
            have HR : Hid (PutG M wo v' (.int .i64 ((C : Int) + (x.toNat : Int))) (.int .i64 ((j : Int) + 1)) w3) := ⟨j + 1, hj7, by go_num, by rw [HCT.out]; congr 1, hon, hB3⟩
            clear hown' hgrow' hg hbg hB3 hon
            go_wp2_with fail
            go_roundw
            case rel => exact HR.out
            case measure => simp [intOf] <;> omega
          · have hin1 : ¬ (p : Int) + (j : Int) < (L.length : Int) := by omega
            have eq : q = true := by rw [← hq2, getD_true L _ (by omega)]
            have ex : x = 1 := by rw [← hx, eq]; rfl
            subst ex
            clear hq2 hx
            go_wp2_with (at_builtin; refine wpList_append_own _ rfl _ _ 22 rfl wo.heap.size 5 i0 (.int .u8 0) 1 1 Try.underlying22 hi hz0 hz1 hz2 rfl (by decide) _ _ _ rfl (hg.alloc _) ⟨wr.heap.size, 0, none⟩ 1 1 [.int .u8 1] rfl rfl (cell_one_new _ _ _) (by intro u hu; simp at hu; subst hu; rfl) (by unfold maxLen; omega) (by omega) (by simp; omega) ?_; intro v' w3 hown' hgrow' _)
            have hB3 : Below wo.heap.size wo w3 := (hbg.alloc hbg.size _).grown hgrow' (by simp; omega) (fun g hk => (hg.lt g hk).1)
            have hon : w3.ownsRow wo.heap.size 5 1 v' (j + 1) ((oneL ((g7 M).take (j + 1))).map vB) := by
              rw [HGT.out, one_append, List.map_append]
              have e : (oneL [q]).map vB = [.int .u8 1] := by rw [eq]; rfl
              rw [e]
              exact hown'
            have HR : Hid (PutG M wo v' (.int .i64 ((C : Int) + 1)) (.int .i64 ((j : Int) + 1)) w3) := ⟨j + 1, hj7, by go_num, by rw [HCT.out]; congr 1, hon, hB3⟩
            clear hown' hgrow' hg hbg hB3 hon
            go_wp2_with fail
            go_roundw
            case rel => exact HR.out
            case measure => simp [intOf] <;> omega
        · have ej : j = 7 := by omega
          subst ej
          have eg : (g7 M).take 7 = g7 M := rfl
          rw [eg] at hg ⊢
          obtain ⟨q0, q7, q8⟩ := cnt_g7 M
          obtain ⟨C, hC⟩ : ∃ C, cntT (g7 M) = C := ⟨_, rfl⟩
          rw [hC] at q0 q7 q8 ⊢
          clear eg hC
          by_cases ca : g7 M = List.replicate 7 false
          · have c0 : C = 0 := q0.2 ca
            subst c0
            have HE : Hid (eighth M = true) := by unfold Hid eighth; rw [if_pos ca]
            have HT : Hid (taken M = 7) := by unfold Hid taken; rw [if_pos (.inl ca)]
            clear q0 q7 q8 ca
            go_wp2_with (at_builtin; refine wpList_append_own _ rfl _ _ 22 rfl wo.heap.size 5 i0 (.int .u8 0) 1 1 Try.underlying22 hi hz0 hz1 hz2 rfl (by decide) _ _ _ rfl (hg.alloc _) ⟨wr.heap.size, 0, none⟩ 1 1 [.int .u8 1] rfl rfl (cell_one_new _ _ _) (by intro u hu; simp at hu; subst hu; rfl) (by unfold maxLen; omega) (by omega) (by simp; omega) ?_; intro v3 w3 hown3 hgrow3 _)
            have hB3 : Below wo.heap.size wo w3 := (hbg.alloc hbg.size _).grown hgrow3 (by simp; omega) (fun g hk => (hg.lt g hk).1)
            have hg8 : w3.ownsRow wo.heap.size 5 1 v3 8 ((oneL (g7 M ++ [true])).map vB) := by
              rw [one_append, List.map_append]
              exact hown3
            obtain ⟨A3, c3, rfl, hc3⟩ := own_form hg8
            have hrd3 : Rd vB w3 A3 (oneL (g7 M ++ [true])) := Rd.own hg8
            have HVL : Hid (val8 (g7 M ++ [true]) = val8 (g7 M ++ [eighth M])) := by unfold Hid; rw [HE.out]
            clear hown3 hgrow3 hg hbg hg8
            go_wp2_with fail
            refine (refvalue_any (g7 M ++ [true]) A3 c3 _ rfl hrd3).mono ?_
            rintro e w4 ⟨rfl, rfl⟩
            rw [HVL.out]
            obtain ⟨z, hz⟩ : ∃ z, val8 (g7 M ++ [eighth M]) = z := ⟨_, rfl⟩
            rw [hz] at HSC ⊢
            have hown4 := ownsRow_later hown hB3
            have hbw := below_step hbel hB3
            have hsz := hbw.size
            have HNX := Lib.hid (putO_next HO.out HSC.out HLD.out HT.out)
            clear hz hrd3 hB3
            go_wp2_with (at_builtin; refine wpList_append_own _ rfl _ _ 22 rfl w1.heap.size 5 i0 (.int .u8 0) 1 1 Try.underlying22 hi hz0 hz1 hz2 rfl (by decide) _ _ _ rfl (hown4.alloc _) ⟨w3.heap.size, 0, none⟩ 1 1 [.int .u8 (z.toNat : Int)] rfl rfl (cell_one_new _ _ _) (by intro u hu; simp at hu; subst hu; rfl) (by unfold maxLen; omega) (by omega) (by simp; omega) ?_; intro v5 w5 hown5 hgrow5 _)
            have hB5 : Below w1.heap.size w1 w5 := (hbw.alloc hbw.size _).grown hgrow5 (by simp; omega) (fun g hk => (hown4.lt g hk).1)
            have HR : Hid (PutO L w1 v5 (.int .i64 ((p : Int) + 7)) w5) := ⟨O ++ [z], p + 7, by go_num, by omega, by rw [List.length_append, List.map_append]; exact hown5, HNX, hB5⟩
            clear hown5 hgrow5 hown4 hbw hB5
            go_wp2_with fail
            go_roundw
            case rel => exact HR.out
            case measure => simp [intOf] <;> omega
          · by_cases cb : g7 M = List.replicate 7 true
            · have c7 : C = 7 := q7.2 cb
              subst c7
              have HE : Hid (eighth M = false) := by unfold Hid eighth; rw [if_neg ca, if_pos cb]
              have HT : Hid (taken M = 7) := by unfold Hid taken; rw [if_pos (.inr cb)]
              clear q0 q7 q8 ca cb
              go_wp2_with (at_builtin; refine wpList_append_own _ rfl _ _ 22 rfl wo.heap.size 5 i0 (.int .u8 0) 1 1 Try.underlying22 hi hz0 hz1 hz2 rfl (by decide) _ _ _ rfl (hg.alloc _) ⟨wr.heap.size, 0, none⟩ 1 1 [.int .u8 0] rfl rfl (cell_one_new _ _ _) (by intro u hu; simp at hu; subst hu; rfl) (by unfold maxLen; omega) (by omega) (by simp; omega) ?_; intro v3 w3 hown3 hgrow3 _)
              have hB3 : Below wo.heap.size wo w3 := (hbg.alloc hbg.size _).grown hgrow3 (by simp; omega) (fun g hk => (hg.lt g hk).1)
              have hg8 : w3.ownsRow wo.heap.size 5 1 v3 8 ((oneL (g7 M ++ [false])).map vB) := by
                rw [one_append, List.map_append]
                exact hown3
              obtain ⟨A3, c3, rfl, hc3⟩ := own_form hg8
              have hrd3 : Rd vB w3 A3 (oneL (g7 M ++ [false])) := Rd.own hg8
              have HVL : Hid (val8 (g7 M ++ [false]) = val8 (g7 M ++ [eighth M])) := by unfold Hid; rw [HE.out]
              clear hown3 hgrow3 hg hbg hg8
              go_wp2_with fail
              refine (refvalue_any (g7 M ++ [false]) A3 c3 _ rfl hrd3).mono ?_
              rintro e w4 ⟨rfl, rfl⟩
              rw [HVL.out]
              obtain ⟨z, hz⟩ : ∃ z, val8 (g7 M ++ [eighth M]) = z := ⟨_, rfl⟩
              rw [hz] at HSC ⊢
              have hown4 := ownsRow_later hown hB3
              have hbw := below_step hbel hB3
              have hsz := hbw.size
              have HNX := Lib.hid (putO_next HO.out HSC.out HLD.out HT.out)
              clear hz hrd3 hB3
              go_wp2_with (at_builtin; refine wpList_append_own _ rfl _ _ 22 rfl w1.heap.size 5 i0 (.int .u8 0) 1 1 Try.underlying22 hi hz0 hz1 hz2 rfl (by decide) _ _ _ rfl (hown4.alloc _) ⟨w3.heap.size, 0, none⟩ 1 1 [.int .u8 (z.toNat : Int)] rfl rfl (cell_one_new _ _ _) (by intro u hu; simp at hu; subst hu; rfl) (by unfold maxLen; omega) (by omega) (by simp; omega) ?_; intro v5 w5 hown5 hgrow5 _)
              have hB5 : Below w1.heap.size w1 w5 := (hbw.alloc hbw.size _).grown hgrow5 (by simp; omega) (fun g hk => (hown4.lt g hk).1)
              have HR : Hid (PutO L w1 v5 (.int .i64 ((p : Int) + 7)) w5) := ⟨O ++ [z], p + 7, by go_num, by omega, by rw [List.length_append, List.map_append]; exact hown5, HNX, hB5⟩
              clear hown5 hgrow5 hown4 hbw hB5
              go_wp2_with fail
              go_roundw
              case rel => exact HR.out
              case measure => simp [intOf] <;> omega
            · have c1 : C ≠ 0 := fun e => ca (q0.1 e)
              have c2 : C ≠ 7 := fun e => cb (q7.1 e)
              have HT : Hid (taken M = 8) := by unfold Hid taken; rw [if_neg (fun h => h.elim ca cb)]
              have he : eighth M = L.getD (p + 7) true := by unfold eighth; rw [if_neg ca, if_neg cb, HGD.out 7]
              have c3 : ((C : Int) == 0) = false := beq_eq_false_iff_ne.2 (by omega)
              have c4 : ((C : Int) == 7) = false := beq_eq_false_iff_ne.2 (by omega)
              clear q0 q7 ca cb
              by_cases hin : p + 7 < L.length
              · have hin1 : (p : Int) + 7 < (L.length : Int) := by omega
                have hin0 : (0 : Int) ≤ (p : Int) + 7 := by omega
                have hio : p + 7 < (oneL L).length := by rw [one_length]; exact hin
                obtain ⟨gb, ob, rfl, hgb, hcb⟩ := hr1.at hio
                obtain ⟨q, hq⟩ : ∃ q, L[p + 7] = q := ⟨_, rfl⟩
                have HE : Hid (eighth M = q) := by unfold Hid; rw [he, getD_lt L _ hin, hq]
                obtain ⟨x, hx⟩ : ∃ x, oneB q = x := ⟨_, rfl⟩
                have hcell : wr.cell? ⟨gb, ob + (p + 7), none⟩ = some (.int .u8 (x.toNat : Int)) := by
                  have e1 : (oneL L)[p + 7] = x := by
                    rw [← hx, ← hq]
                    simp [oneL]
                  have := (below_step hbel hbg).cell (p := ⟨gb, ob + (p + 7), none⟩) hgb
                  rw [this, hcb (p + 7) hio, e1]
                  rfl
                have hone : (oneL [q]).map vB = [.int .u8 (x.toNat : Int)] := by rw [← hx]; rfl
                clear hcb hio he hq hx
                go_wp2_with (at_builtin; refine wpList_append_own _ rfl _ _ 22 rfl wo.heap.size 5 i0 (.int .u8 0) 1 1 Try.underlying22 hi hz0 hz1 hz2 rfl (by decide) _ _ _ rfl (hg.alloc _) ⟨wr.heap.size, 0, none⟩ 1 1 [.int .u8 (x.toNat : Int)] rfl rfl (cell_one_new _ _ _) (by intro u hu; simp at hu; subst hu; rfl) (by unfold maxLen; omega) (by omega) (by simp; omega) ?_; intro v3 w3 hown3 hgrow3 _)
                have hB3 : Below wo.heap.size wo w3 := (hbg.alloc hbg.size _).grown hgrow3 (by simp; omega) (fun g hk => (hg.lt g hk).1)
                have hg8 : w3.ownsRow wo.heap.size 5 1 v3 8 ((oneL (g7 M ++ [q])).map vB) := by
                  rw [one_append, List.map_append, hone]
                  exact hown3
                obtain ⟨A3, c3, rfl, hc3⟩ := own_form hg8
                have hrd3 : Rd vB w3 A3 (oneL (g7 M ++ [q])) := Rd.own hg8
                have HVL : Hid (val8 (g7 M ++ [q]) = val8 (g7 M ++ [eighth M])) := by unfold Hid; rw [HE.out]
                clear hown3 hgrow3 hg hbg hg8
                go_wp2_with fail
                refine (refvalue_any (g7 M ++ [q]) A3 c3 _ rfl hrd3).mono ?_
                rintro e w4 ⟨rfl, rfl⟩
                rw [HVL.out]
                obtain ⟨z, hz⟩ : ∃ z, val8 (g7 M ++ [eighth M]) = z := ⟨_, rfl⟩
                rw [hz] at HSC ⊢
                have hown4 := ownsRow_later hown hB3
                have hbw := below_step hbel hB3
                have hsz := hbw.size
                have HNX := Lib.hid (putO_next HO.out HSC.out HLD.out HT.out)
                clear hz hrd3 hB3
                go_wp2_with (at_builtin; refine wpList_append_own _ rfl _ _ 22 rfl w1.heap.size 5 i0 (.int .u8 0) 1 1 Try.underlying22 hi hz0 hz1 hz2 rfl (by decide) _ _ _ rfl (hown4.alloc _) ⟨w3.heap.size, 0, none⟩ 1 1 [.int .u8 (z.toNat : Int)] rfl rfl (cell_one_new _ _ _) (by intro u hu; simp at hu; subst hu; rfl) (by unfold maxLen; omega) (by omega) (by simp; omega) ?_; intro v5 w5 hown5 hgrow5 _)
                have hB5 : Below w1.heap.size w1 w5 := (hbw.alloc hbw.size _).grown hgrow5 (by simp; omega) (fun g hk => (hown4.lt g hk).1)
                have HR : Hid (PutO L w1 v5 (.int .i64 ((p : Int) + 7 + 1)) w5) := ⟨O ++ [z], p + 8, by go_num, by omega, by rw [List.length_append, List.map_append]; exact hown5, HNX, hB5⟩
                clear hown5 hgrow5 hown4 hbw hB5
                go_wp2_with fail
                go_roundw
                case rel => exact HR.out
                case measure => simp [intOf] <;> omega
              · have hin1 : ¬ (p : Int) + 7 < (L.length : Int) := by omega
                have HE : Hid (eighth M = true) := by unfold Hid; rw [he, getD_true L _ (by omega)]
                clear he
                go_wp2_with (at_builtin; refine wpList_append_own _ rfl _ _ 22 rfl wo.heap.size 5 i0 (.int .u8 0) 1 1 Try.underlying22 hi hz0 hz1 hz2 rfl (by decide) _ _ _ rfl (hg.alloc _) ⟨wr.heap.size, 0, none⟩ 1 1 [.int .u8 1] rfl rfl (cell_one_new _ _ _) (by intro u hu; simp at hu; subst hu; rfl) (by unfold maxLen; omega) (by omega) (by simp; omega) ?_; intro v3 w3 hown3 hgrow3 _)
                have hB3 : Below wo.heap.size wo w3 := (hbg.alloc hbg.size _).grown hgrow3 (by simp; omega) (fun g hk => (hg.lt g hk).1)
                have hg8 : w3.ownsRow wo.heap.size 5 1 v3 8 ((oneL (g7 M ++ [true])).map vB) := by
                  rw [one_append, List.map_append]
                  exact hown3
                obtain ⟨A3, c3, rfl, hc3⟩ := own_form hg8
                have hrd3 : Rd vB w3 A3 (oneL (g7 M ++ [true])) := Rd.own hg8
                have HVL : Hid (val8 (g7 M ++ [true]) = val8 (g7 M ++ [eighth M])) := by unfold Hid; rw [HE.out]
                clear hown3 hgrow3 hg hbg hg8
                go_wp2_with fail
                refine (refvalue_any (g7 M ++ [true]) A3 c3 _ rfl hrd3).mono ?_
                rintro e w4 ⟨rfl, rfl⟩
                rw [HVL.out]
                obtain ⟨z, hz⟩ : ∃ z, val8 (g7 M ++ [eighth M]) = z := ⟨_, rfl⟩
                rw [hz] at HSC ⊢
                have hown4 := ownsRow_later hown hB3
                have hbw := below_step hbel hB3
                have hsz := hbw.size
                have HNX : Hid ((O ++ [z]) ++ stuffL (L.drop (p + 7)) = stuffL L) := by unfold Hid; rw [show L.drop (p + 7) = L.drop (p + 8) by rw [List.drop_of_length_le (by omega), List.drop_of_length_le (by omega)]]; exact putO_next HO.out HSC.out HLD.out HT.out
                clear hz hrd3 hB3
                go_wp2_with (at_builtin; refine wpList_append_own _ rfl _ _ 22 rfl w1.heap.size 5 i0 (.int .u8 0) 1 1 Try.underlying22 hi hz0 hz1 hz2 rfl (by decide) _ _ _ rfl (hown4.alloc _) ⟨w3.heap.size, 0, none⟩ 1 1 [.int .u8 (z.toNat : Int)] rfl rfl (cell_one_new _ _ _) (by intro u hu; simp at hu; subst hu; rfl) (by unfold maxLen; omega) (by omega) (by simp; omega) ?_; intro v5 w5 hown5 hgrow5 _)
                have hB5 : Below w1.heap.size w1 w5 := (hbw.alloc hbw.size _).grown hgrow5 (by simp; omega) (fun g hk => (hown4.lt g hk).1)
                have HR : Hid (PutO L w1 v5 (.int .i64 ((p : Int) + 7)) w5) := ⟨O ++ [z], p + 7, by go_num, by omega, by rw [List.length_append, List.map_append]; exact hown5, HNX, hB5⟩
                clear hown5 hgrow5 hown4 hbw hB5
                go_wp2_with fail
                go_roundw
                case rel => exact HR.out
                case measure => simp [intOf] <;> omega
    · have hd : L.drop p = [] := List.drop_of_length_le (by omega)
      have e := HO.out
      rw [hd, stuff_nil, List.append_nil] at e
      have HOP : Hid (O = putT b) := by rw [e]; exact HPL.out
      have p1 : ¬ (p : Int) < (L.length : Int) := by omega
      have hB := below_step HB1.out hbel
      clear hd e
      go_wp2_with fail
      go_ret
      rw [← HOP.out]
      exact RetY.own rfl hown hB
end Go.Proofs.Ytaknikbnajkccaa
