/-
  What the reference's calls value and Put of layer 11 answer. No conditions but those typed.
-/
import Derived.Test.YteppocjgodmpdaaGreatDoorQ5
import Derived.Deep.DeepCutAuto
import Derived.Deep.QuietTactic
namespace Go.Proofs.YteppocjgodmpdaaGreatDoor
set_option maxRecDepth 100000
open Go.RowKit
set_option linter.unusedSimpArgs false
set_option linter.unusedVariables false

def valT (l : List Bool) : UInt8 := l.foldl (fun v x => 2 * v + oneB x) 0
theorem valT_snoc (l : List Bool) (x : Bool) : valT (l ++ [x]) = 2 * valT l + oneB x := by unfold valT; rw [List.foldl_append]; rfl
theorem u8_two (v x : UInt8) : ((2 * v + x).toNat : Int) = (2 * (v.toNat : Int) % 256 + (x.toNat : Int)) % 256 := by
  rw [UInt8.toNat_add, UInt8.toNat_mul]
  have : (2 : UInt8).toNat = 2 := rfl
  rw [this]
  omega
def ValSt (l : List Bool) (w : World) (v i : Value) (wr : World) : Prop :=
  ∃ j : Nat, j ≤ 8 ∧ i = .int .i64 (j : Int) ∧ v = .int .u8 ((valT (l.take j)).toNat : Int) ∧ w = wr
theorem refvalue_any (l : List Bool) (A : Option Addr) (c : Nat) (w : World) (hl : l.length = 8) (hr : Rd vB w A (oneL l)) :
    Calls Tryz.prog 131 #[.slice A 8 c] w fun e w' => e = .returned (.int .u8 ((val8 l).toNat : Int)) ∧ w = w' := by
  go_enter Tryz.func131, Tryz.ntmps131
  go_wp2_with fail
  go_loopw [3, 4] (fun v i wr => ValSt l w v i wr) (fun _ i _ => 8 - (intOf i).toNat)
  case atStart => exact ⟨0, by omega, rfl, rfl, rfl⟩
  case round =>
    obtain ⟨j, hj, rfl, rfl, rfl⟩ := hrel
    by_cases h : j < 8
    · have hjl : j < l.length := by omega
      have hjo : j < (oneL l).length := by rw [one_length]; exact hjl
      obtain ⟨g, o, rfl, hg, hcell⟩ := hr.at hjo
      have hc0 := hcell j hjo
      have e : (oneL l)[j] = oneB l[j] := by simp [oneL]
      rw [e] at hc0
      unfold vB at hc0
      have HE : Hid (valT (l.take (j + 1)) = 2 * valT (l.take j) + oneB l[j]) := by
        unfold Hid
        rw [List.take_succ_eq_append_getElem hjl, valT_snoc]
      generalize oneB l[j] = x at hc0 HE
      have hu := u8_two (valT (l.take j)) x
      generalize valT (l.take j) = v at HE hu ⊢
      have j1 : (j : Int) < 8 := by omega
      have j0 : (0 : Int) ≤ (j : Int) := by omega
      have HR : Hid (ValSt l w (.int .u8 (((2 * v + x).toNat : Nat) : Int)) (.int .i64 ((j : Int) + 1)) w) := ⟨j + 1, h, by go_num, by rw [HE.out], rfl⟩
      generalize (2 * v + x).toNat = r at hu HR
      have hu' := hu.symm
      clear hcell e hu
      go_wp2_with fail
      go_roundw
      case rel => rw [hu']; exact HR.out
      case measure => simp [intOf] <;> omega
    · have ej : j = 8 := by omega
      subst ej
      rw [List.take_of_length_le (by omega)]
      have HV : Hid (valT l = val8 l) := rfl
      rw [HV.out]
      have j1 : ¬ (8 : Int) < 8 := by omega
      go_wp2_with fail
      go_ret
      exact ⟨rfl, rfl⟩

/-! ### Put -/
def cntT (l : List Bool) : Nat := (l.filter id).length
theorem cnt_snoc (l : List Bool) (x : Bool) : cntT (l ++ [x]) = cntT l + (oneB x).toNat := by
  unfold cntT
  rw [List.filter_append, List.length_append]
  cases x <;> rfl
theorem cnt_seven : ∀ a b c d e f g : Bool, (cntT [a, b, c, d, e, f, g] = 0 ↔ [a, b, c, d, e, f, g] = List.replicate 7 false) ∧ (cntT [a, b, c, d, e, f, g] = 7 ↔ [a, b, c, d, e, f, g] = List.replicate 7 true) ∧ cntT [a, b, c, d, e, f, g] ≤ 7 := by decide +kernel
theorem cnt_g7 (M : List Bool) : (cntT (g7 M) = 0 ↔ g7 M = List.replicate 7 false) ∧ (cntT (g7 M) = 7 ↔ g7 M = List.replicate 7 true) ∧ cntT (g7 M) ≤ 7 := cnt_seven _ _ _ _ _ _ _
theorem g7_take (M : List Bool) : ∀ j, j < 7 → (g7 M).take (j + 1) = (g7 M).take j ++ [M.getD j true]
  | 0, _ => rfl
  | 1, _ => rfl
  | 2, _ => rfl
  | 3, _ => rfl
  | 4, _ => rfl
  | 5, _ => rfl
  | 6, _ => rfl
  | j + 7, h => by omega
theorem drop_getD (L : List Bool) (p j : Nat) : (L.drop p).getD j true = L.getD (p + j) true := by
  rw [List.getD_eq_getElem?_getD, List.getD_eq_getElem?_getD, List.getElem?_drop]
theorem getD_lt (L : List Bool) (i : Nat) (h : i < L.length) : L.getD i true = L[i] := by
  rw [List.getD_eq_getElem?_getD, List.getElem?_eq_getElem h]
  rfl
def PutO (L : List Bool) (w : World) (v at' : Value) (wr : World) : Prop :=
  ∃ (O : List UInt8) (p : Nat), at' = .int .i64 (p : Int) ∧ p ≤ L.length + 8 ∧ wr.ownsRow w.heap.size 5 1 v O.length (O.map vB) ∧ Hid (O ++ stuffL (L.drop p) = stuffL L) ∧ Below w.heap.size w wr
def PutG (M : List Bool) (w : World) (g sum i : Value) (wr : World) : Prop :=
  ∃ j : Nat, j ≤ 7 ∧ i = .int .i64 (j : Int) ∧ sum = .int .i64 (cntT ((g7 M).take j) : Int) ∧ wr.ownsRow w.heap.size 5 1 g j ((oneL ((g7 M).take j)).map vB) ∧ Below w.heap.size w wr

theorem putO_next {L M : List Bool} {O : List UInt8} {p t : Nat} {c : UInt8} (HO : O ++ stuffL M = stuffL L) (HSC : stuffL M = c :: stuffL (M.drop (taken M))) (HLD : M.drop (taken M) = L.drop (p + taken M)) (ht : taken M = t) : (O ++ [c]) ++ stuffL (L.drop (p + t)) = stuffL L := by
  rw [← HO, HSC, HLD, ht, List.append_assoc]
  rfl

set_option maxHeartbeats 4000000 in
theorem refputSt_any (b : List UInt8) (n : Nat) (A : Option Addr) (c : Nat) (w : World) (HN : Hid (b.length = n)) (hr : Rd vB w A b) (hn : n ≤ 100000) :
    Calls Tryz.prog 73 #[.slice A n c] w (RetY w (putSt b)) := by
  obtain ⟨i0, hi, hz0, hz1, hz2⟩ := info_parts info_u8
  go_enter Tryz.func73, Tryz.ntmps73
  go_wp2_with fail
  refine (refbits_any b n A c _ HN hr (by omega)).mono ?_
  rintro e w1 ⟨A1, n1, c1, rfl, HN1, hc1, hr1, hb1⟩
  have hLl : (bitsL b).length = n1 := by rw [← HN1.out, one_length]
  have hn1 : n1 ≤ 800000 := by rw [← hLl, bits_length, HN.out]; omega
  have HPL : Hid (stuffL (bitsL b) = putSt b) := rfl
  have hSl : (stuffL (bitsL b)).length ≤ 200000 := by
    have := (put_length b).2
    unfold putSt at this
    rw [HN.out] at this
    omega
  generalize bitsL b = L at HN1 hr1 hLl HPL hSl
  subst hLl
  have HB1 := Lib.hid hb1
  have HSL := Lib.hid hSl
  clear hb1 hr HN1 hSl
  go_wp2_with fail
  go_loopw [4, 5] (fun v at' wr => PutO L w1 v at' wr) (fun _ at' _ => L.length - (intOf at').toNat)
  case atStart => exact ⟨[], 0, rfl, by omega, World.ownsRow_nil _ _ _ _, Lib.hid rfl, Below.refl _ _⟩
  case round =>
    obtain ⟨O, p, rfl, hp8, hown, HO, hbel⟩ := hrel
    by_cases h : p < L.length
    · have p1 : (p : Int) < (L.length : Int) := by omega
      have hOl : O.length ≤ 200000 := by
        have := congrArg List.length HO.out
        rw [List.length_append] at this
        have := HSL.out
        omega
      have hM0 : L.drop p ≠ [] := by
        intro e
        have := congrArg List.length e
        rw [List.length_drop, List.length_nil] at this
        omega
      have HSC := Lib.hid (stuff_cons (L.drop p) hM0)
      have HGD : Hid (∀ j, (L.drop p).getD j true = L.getD (p + j) true) := fun j => drop_getD L p j
      have hLD : (L.drop p).drop (taken (L.drop p)) = L.drop (p + taken (L.drop p)) := by rw [List.drop_drop]
      have HLD := Lib.hid hLD
      generalize hM : L.drop p = M at HSC HGD HO HLD
      clear hM0 hLD hM
      rename World => wo
      go_wp2_with fail
      go_loopw [6, 7, 8] (fun g s i wr => PutG M wo g s i wr) (fun _ _ i _ => 7 - (intOf i).toNat)
      case atStart => exact ⟨0, by omega, rfl, rfl, World.ownsRow_nil _ _ _ _, Below.refl _ _⟩
      case round =>
        obtain ⟨j, hj, rfl, rfl, hg, hbg⟩ := hrel
        have hle := hbg.size
        by_cases hj7 : j < 7
        · have j1 : (j : Int) < 7 := by omega
          have j0 : (0 : Int) ≤ (j : Int) := by omega
          obtain ⟨q, hq⟩ : ∃ q, M.getD j true = q := ⟨_, rfl⟩
          have HGT := Lib.hid (g7_take M j hj7)
          rw [hq] at HGT
          have hct : cntT ((g7 M).take (j + 1)) = cntT ((g7 M).take j) + (oneB q).toNat := by rw [HGT.out, cnt_snoc]
          have hq2 : L.getD (p + j) true = q := by rw [← HGD.out j, hq]
          have hcl : cntT ((g7 M).take j) ≤ 7 := by
            unfold cntT
            refine Nat.le_trans (List.length_filter_le _ _) ?_
            rw [List.length_take]
            omega
          obtain ⟨x, hx⟩ : ∃ x, oneB q = x := ⟨_, rfl⟩
          rw [hx] at hct
          obtain ⟨C, hC⟩ : ∃ C, cntT ((g7 M).take j) = C := ⟨_, rfl⟩
          rw [hC] at hct hcl ⊢
          have HCT := Lib.hid hct
          have HXQ := Lib.hid hx
          have hx2 : x.toNat ≤ 1 := by rw [← hx]; cases q <;> decide
          have hwx : IntKind.i64.wrap (x.toNat : Int) = (x.toNat : Int) := by rw [IntKind.wrap_i64]; omega
          clear hct hC hq
          by_cases hin : p + j < L.length
          · have hin1 : (p : Int) + (j : Int) < (L.length : Int) := by omega
            have hin0 : (0 : Int) ≤ (p : Int) + (j : Int) := by omega
            have hio : p + j < (oneL L).length := by rw [one_length]; exact hin
            obtain ⟨gb, ob, rfl, hgb, hcb⟩ := hr1.at hio
            have hcell : wr.cell? ⟨gb, ob + (p + j), none⟩ = some (.int .u8 (x.toNat : Int)) := by
              have e1 : (oneL L)[p + j] = x := by
                rw [← hx, ← hq2, getD_lt L _ hin]
                simp [oneL]
              have := (below_step hbel hbg).cell (p := ⟨gb, ob + (p + j), none⟩) hgb
              rw [this, hcb (p + j) hio, e1]
              rfl
            clear hcb hq2 hx hio
            go_wp2_with (at_builtin; refine wpList_append_own _ rfl _ _ 22 rfl wo.heap.size 5 i0 (.int .u8 0) 1 1 Tryz.underlying22 hi hz0 hz1 hz2 rfl (by decide) _ _ _ rfl (hg.alloc _) ⟨wr.heap.size, 0, none⟩ 1 1 [.int .u8 (x.toNat : Int)] rfl rfl (cell_one_new _ _ _) (by intro u hu; simp at hu; subst hu; rfl) (by unfold maxLen; omega) (by omega) (by simp; omega) ?_; intro v' w3 hown' hgrow' _)
            have hB3 : Below wo.heap.size wo w3 := (hbg.alloc hbg.size _).grown hgrow' (by simp; omega) (fun g hk => (hg.lt g hk).1)
            have hon : w3.ownsRow wo.heap.size 5 1 v' (j + 1) ((oneL ((g7 M).take (j + 1))).map vB) := by
              rw [HGT.out, one_append, List.map_append]
              have e : (oneL [q]).map vB = [.int .u8 (x.toNat : Int)] := by rw [← HXQ.out]; rfl
              rw [e]
              exact hown'
            have HR : Hid (PutG M wo v' (.int .i64 ((C : Int) + (x.toNat : Int))) (.int .i64 ((j : Int) + 1)) w3) := ⟨j + 1, hj7, by go_num, by rw [HCT.out]; congr 1, hon, hB3⟩
            clear hown' hgrow' hg hbg hB3 hon
            go_wp2_with fail
            go_roundw
            case rel => exact HR.out
            case measure => simp [intOf] <;> omega
          · have hin1 : ¬ (p : Int) + (j : Int) < (L.length : Int) := by omega
            have eq : q = true := by rw [← hq2, getD_true L _ (by omega)]
            have ex : x = 1 := by rw [← hx, eq]; rfl
            subst ex
            clear hq2 hx
            go_wp2_with (at_builtin; refine wpList_append_own _ rfl _ _ 22 rfl wo.heap.size 5 i0 (.int .u8 0) 1 1 Tryz.underlying22 hi hz0 hz1 hz2 rfl (by decide) _ _ _ rfl (hg.alloc _) ⟨wr.heap.size, 0, none⟩ 1 1 [.int .u8 1] rfl rfl (cell_one_new _ _ _) (by intro u hu; simp at hu; subst hu; rfl) (by unfold maxLen; omega) (by omega) (by simp; omega) ?_; intro v' w3 hown' hgrow' _)
            have hB3 : Below wo.heap.size wo w3 := (hbg.alloc hbg.size _).grown hgrow' (by simp; omega) (fun g hk => (hg.lt g hk).1)
            have hon : w3.ownsRow wo.heap.size 5 1 v' (j + 1) ((oneL ((g7 M).take (j + 1))).map vB) := by
              rw [HGT.out, one_append, List.map_append]
              have e : (oneL [q]).map vB = [.int .u8 1] := by rw [eq]; rfl
              rw [e]
              exact hown'
            have HR : Hid (PutG M wo v' (.int .i64 ((C : Int) + 1)) (.int .i64 ((j : Int) + 1)) w3) := ⟨j + 1, hj7, by go_num, by rw [HCT.out]; congr 1, hon, hB3⟩
            clear hown' hgrow' hg hbg hB3 hon
            go_wp2_with fail
            go_roundw
            case rel => exact HR.out
            case measure => simp [intOf] <;> omega
        · have ej : j = 7 := by omega
          subst ej
          have eg : (g7 M).take 7 = g7 M := rfl
          rw [eg] at hg ⊢
          obtain ⟨q0, q7, q8⟩ := cnt_g7 M
          obtain ⟨C, hC⟩ : ∃ C, cntT (g7 M) = C := ⟨_, rfl⟩
          rw [hC] at q0 q7 q8 ⊢
          clear eg hC
          by_cases ca : g7 M = List.replicate 7 false
          · have c0 : C = 0 := q0.2 ca
            subst c0
            have HE : Hid (eighth M = true) := by unfold Hid eighth; rw [if_pos ca]
            have HT : Hid (taken M = 7) := by unfold Hid taken; rw [if_pos (.inl ca)]
            clear q0 q7 q8 ca
            go_wp2_with (at_builtin; refine wpList_append_own _ rfl _ _ 22 rfl wo.heap.size 5 i0 (.int .u8 0) 1 1 Tryz.underlying22 hi hz0 hz1 hz2 rfl (by decide) _ _ _ rfl (hg.alloc _) ⟨wr.heap.size, 0, none⟩ 1 1 [.int .u8 1] rfl rfl (cell_one_new _ _ _) (by intro u hu; simp at hu; subst hu; rfl) (by unfold maxLen; omega) (by omega) (by simp; omega) ?_; intro v3 w3 hown3 hgrow3 _)
            have hB3 : Below wo.heap.size wo w3 := (hbg.alloc hbg.size _).grown hgrow3 (by simp; omega) (fun g hk => (hg.lt g hk).1)
            have hg8 : w3.ownsRow wo.heap.size 5 1 v3 8 ((oneL (g7 M ++ [true])).map vB) := by
              rw [one_append, List.map_append]
              exact hown3
            obtain ⟨A3, c3, rfl, hc3⟩ := own_form hg8
            have hrd3 : Rd vB w3 A3 (oneL (g7 M ++ [true])) := Rd.own hg8
            have HVL : Hid (val8 (g7 M ++ [true]) = val8 (g7 M ++ [eighth M])) := by unfold Hid; rw [HE.out]
            clear hown3 hgrow3 hg hbg hg8
            go_wp2_with fail
            refine (refvalue_any (g7 M ++ [true]) A3 c3 _ rfl hrd3).mono ?_
            rintro e w4 ⟨rfl, rfl⟩
            rw [HVL.out]
            obtain ⟨z, hz⟩ : ∃ z, val8 (g7 M ++ [eighth M]) = z := ⟨_, rfl⟩
            rw [hz] at HSC ⊢
            have hown4 := ownsRow_later hown hB3
            have hbw := below_step hbel hB3
            have hsz := hbw.size
            have HNX := Lib.hid (putO_next HO.out HSC.out HLD.out HT.out)
            clear hz hrd3 hB3
            go_wp2_with (at_builtin; refine wpList_append_own _ rfl _ _ 22 rfl w1.heap.size 5 i0 (.int .u8 0) 1 1 Tryz.underlying22 hi hz0 hz1 hz2 rfl (by decide) _ _ _ rfl (hown4.alloc _) ⟨w3.heap.size, 0, none⟩ 1 1 [.int .u8 (z.toNat : Int)] rfl rfl (cell_one_new _ _ _) (by intro u hu; simp at hu; subst hu; rfl) (by unfold maxLen; omega) (by omega) (by simp; omega) ?_; intro v5 w5 hown5 hgrow5 _)
            have hB5 : Below w1.heap.size w1 w5 := (hbw.alloc hbw.size _).grown hgrow5 (by simp; omega) (fun g hk => (hown4.lt g hk).1)
            have HR : Hid (PutO L w1 v5 (.int .i64 ((p : Int) + 7)) w5) := ⟨O ++ [z], p + 7, by go_num, by omega, by rw [List.length_append, List.map_append]; exact hown5, HNX, hB5⟩
            clear hown5 hgrow5 hown4 hbw hB5
            go_wp2_with fail
            go_roundw
            case rel => exact HR.out
            case measure => simp [intOf] <;> omega
          · by_cases cb : g7 M = List.replicate 7 true
            · have c7 : C = 7 := q7.2 cb
              subst c7
              have HE : Hid (eighth M = false) := by unfold Hid eighth; rw [if_neg ca, if_pos cb]
              have HT : Hid (taken M = 7) := by unfold Hid taken; rw [if_pos (.inr cb)]
              clear q0 q7 q8 ca cb
              go_wp2_with (at_builtin; refine wpList_append_own _ rfl _ _ 22 rfl wo.heap.size 5 i0 (.int .u8 0) 1 1 Tryz.underlying22 hi hz0 hz1 hz2 rfl (by decide) _ _ _ rfl (hg.alloc _) ⟨wr.heap.size, 0, none⟩ 1 1 [.int .u8 0] rfl rfl (cell_one_new _ _ _) (by intro u hu; simp at hu; subst hu; rfl) (by unfold maxLen; omega) (by omega) (by simp; omega) ?_; intro v3 w3 hown3 hgrow3 _)
              have hB3 : Below wo.heap.size wo w3 := (hbg.alloc hbg.size _).grown hgrow3 (by simp; omega) (fun g hk => (hg.lt g hk).1)
              have hg8 : w3.ownsRow wo.heap.size 5 1 v3 8 ((oneL (g7 M ++ [false])).map vB) := by
                rw [one_append, List.map_append]
                exact hown3
              obtain ⟨A3, c3, rfl, hc3⟩ := own_form hg8
              have hrd3 : Rd vB w3 A3 (oneL (g7 M ++ [false])) := Rd.own hg8
              have HVL : Hid (val8 (g7 M ++ [false]) = val8 (g7 M ++ [eighth M])) := by unfold Hid; rw [HE.out]
              clear hown3 hgrow3 hg hbg hg8
              go_wp2_with fail
              refine (refvalue_any (g7 M ++ [false]) A3 c3 _ rfl hrd3).mono ?_
              rintro e w4 ⟨rfl, rfl⟩
              rw [HVL.out]
              obtain ⟨z, hz⟩ : ∃ z, val8 (g7 M ++ [eighth M]) = z := ⟨_, rfl⟩
              rw [hz] at HSC ⊢
              have hown4 := ownsRow_later hown hB3
              have hbw := below_step hbel hB3
              have hsz := hbw.size
              have HNX := Lib.hid (putO_next HO.out HSC.out HLD.out HT.out)
              clear hz hrd3 hB3
              go_wp2_with (at_builtin; refine wpList_append_own _ rfl _ _ 22 rfl w1.heap.size 5 i0 (.int .u8 0) 1 1 Tryz.underlying22 hi hz0 hz1 hz2 rfl (by decide) _ _ _ rfl (hown4.alloc _) ⟨w3.heap.size, 0, none⟩ 1 1 [.int .u8 (z.toNat : Int)] rfl rfl (cell_one_new _ _ _) (by intro u hu; simp at hu; subst hu; rfl) (by unfold maxLen; omega) (by omega) (by simp; omega) ?_; intro v5 w5 hown5 hgrow5 _)
              have hB5 : Below w1.heap.size w1 w5 := (hbw.alloc hbw.size _).grown hgrow5 (by simp; omega) (fun g hk => (hown4.lt g hk).1)
              have HR : Hid (PutO L w1 v5 (.int .i64 ((p : Int) + 7)) w5) := ⟨O ++ [z], p + 7, by go_num, by omega, by rw [List.length_append, List.map_append]; exact hown5, HNX, hB5⟩
              clear hown5 hgrow5 hown4 hbw hB5
              go_wp2_with fail
              go_roundw
              case rel => exact HR.out
              case measure => simp [intOf] <;> omega
            · have c1 : C ≠ 0 := fun e => ca (q0.1 e)
              have c2 : C ≠ 7 := fun e => cb (q7.1 e)
              have HT : Hid (taken M = 8) := by unfold Hid taken; rw [if_neg (fun h => h.elim ca cb)]
              have he : eighth M = L.getD (p + 7) true := by unfold eighth; rw [if_neg ca, if_neg cb, HGD.out 7]
              have c3 : ((C : Int) == 0) = false := beq_eq_false_iff_ne.2 (by omega)
              have c4 : ((C : Int) == 7) = false := beq_eq_false_iff_ne.2 (by omega)
              clear q0 q7 ca cb
              by_cases hin : p + 7 < L.length
              · have hin1 : (p : Int) + 7 < (L.length : Int) := by omega
                have hin0 : (0 : Int) ≤ (p : Int) + 7 := by omega
                have hio : p + 7 < (oneL L).length := by rw [one_length]; exact hin
                obtain ⟨gb, ob, rfl, hgb, hcb⟩ := hr1.at hio
                obtain ⟨q, hq⟩ : ∃ q, L[p + 7] = q := ⟨_, rfl⟩
                have HE : Hid (eighth M = q) := by unfold Hid; rw [he, getD_lt L _ hin, hq]
                obtain ⟨x, hx⟩ : ∃ x, oneB q = x := ⟨_, rfl⟩
                have hcell : wr.cell? ⟨gb, ob + (p + 7), none⟩ = some (.int .u8 (x.toNat : Int)) := by
                  have e1 : (oneL L)[p + 7] = x := by
                    rw [← hx, ← hq]
                    simp [oneL]
                  have := (below_step hbel hbg).cell (p := ⟨gb, ob + (p + 7), none⟩) hgb
                  rw [this, hcb (p + 7) hio, e1]
                  rfl
                have hone : (oneL [q]).map vB = [.int .u8 (x.toNat : Int)] := by rw [← hx]; rfl
                clear hcb hio he hq hx
                go_wp2_with (at_builtin; refine wpList_append_own _ rfl _ _ 22 rfl wo.heap.size 5 i0 (.int .u8 0) 1 1 Tryz.underlying22 hi hz0 hz1 hz2 rfl (by decide) _ _ _ rfl (hg.alloc _) ⟨wr.heap.size, 0, none⟩ 1 1 [.int .u8 (x.toNat : Int)] rfl rfl (cell_one_new _ _ _) (by intro u hu; simp at hu; subst hu; rfl) (by unfold maxLen; omega) (by omega) (by simp; omega) ?_; intro v3 w3 hown3 hgrow3 _)
                have hB3 : Below wo.heap.size wo w3 := (hbg.alloc hbg.size _).grown hgrow3 (by simp; omega) (fun g hk => (hg.lt g hk).1)
                have hg8 : w3.ownsRow wo.heap.size 5 1 v3 8 ((oneL (g7 M ++ [q])).map vB) := by
                  rw [one_append, List.map_append, hone]
                  exact hown3
                obtain ⟨A3, c3, rfl, hc3⟩ := own_form hg8
                have hrd3 : Rd vB w3 A3 (oneL (g7 M ++ [q])) := Rd.own hg8
                have HVL : Hid (val8 (g7 M ++ [q]) = val8 (g7 M ++ [eighth M])) := by unfold Hid; rw [HE.out]
                clear hown3 hgrow3 hg hbg hg8
                go_wp2_with fail
                refine (refvalue_any (g7 M ++ [q]) A3 c3 _ rfl hrd3).mono ?_
                rintro e w4 ⟨rfl, rfl⟩
                rw [HVL.out]
                obtain ⟨z, hz⟩ : ∃ z, val8 (g7 M ++ [eighth M]) = z := ⟨_, rfl⟩
                rw [hz] at HSC ⊢
                have hown4 := ownsRow_later hown hB3
                have hbw := below_step hbel hB3
                have hsz := hbw.size
                have HNX := Lib.hid (putO_next HO.out HSC.out HLD.out HT.out)
                clear hz hrd3 hB3
                go_wp2_with (at_builtin; refine wpList_append_own _ rfl _ _ 22 rfl w1.heap.size 5 i0 (.int .u8 0) 1 1 Tryz.underlying22 hi hz0 hz1 hz2 rfl (by decide) _ _ _ rfl (hown4.alloc _) ⟨w3.heap.size, 0, none⟩ 1 1 [.int .u8 (z.toNat : Int)] rfl rfl (cell_one_new _ _ _) (by intro u hu; simp at hu; subst hu; rfl) (by unfold maxLen; omega) (by omega) (by simp; omega) ?_; intro v5 w5 hown5 hgrow5 _)
                have hB5 : Below w1.heap.size w1 w5 := (hbw.alloc hbw.size _).grown hgrow5 (by simp; omega) (fun g hk => (hown4.lt g hk).1)
                have HR : Hid (PutO L w1 v5 (.int .i64 ((p : Int) + 7 + 1)) w5) := ⟨O ++ [z], p + 8, by go_num, by omega, by rw [List.length_append, List.map_append]; exact hown5, HNX, hB5⟩
                clear hown5 hgrow5 hown4 hbw hB5
                go_wp2_with fail
                go_roundw
                case rel => exact HR.out
                case measure => simp [intOf] <;> omega
              · have hin1 : ¬ (p : Int) + 7 < (L.length : Int) := by omega
                have HE : Hid (eighth M = true) := by unfold Hid; rw [he, getD_true L _ (by omega)]
                clear he
                go_wp2_with (at_builtin; refine wpList_append_own _ rfl _ _ 22 rfl wo.heap.size 5 i0 (.int .u8 0) 1 1 Tryz.underlying22 hi hz0 hz1 hz2 rfl (by decide) _ _ _ rfl (hg.alloc _) ⟨wr.heap.size, 0, none⟩ 1 1 [.int .u8 1] rfl rfl (cell_one_new _ _ _) (by intro u hu; simp at hu; subst hu; rfl) (by unfold maxLen; omega) (by omega) (by simp; omega) ?_; intro v3 w3 hown3 hgrow3 _)
                have hB3 : Below wo.heap.size wo w3 := (hbg.alloc hbg.size _).grown hgrow3 (by simp; omega) (fun g hk => (hg.lt g hk).1)
                have hg8 : w3.ownsRow wo.heap.size 5 1 v3 8 ((oneL (g7 M ++ [true])).map vB) := by
                  rw [one_append, List.map_append]
                  exact hown3
                obtain ⟨A3, c3, rfl, hc3⟩ := own_form hg8
                have hrd3 : Rd vB w3 A3 (oneL (g7 M ++ [true])) := Rd.own hg8
                have HVL : Hid (val8 (g7 M ++ [true]) = val8 (g7 M ++ [eighth M])) := by unfold Hid; rw [HE.out]
                clear hown3 hgrow3 hg hbg hg8
                go_wp2_with fail
                refine (refvalue_any (g7 M ++ [true]) A3 c3 _ rfl hrd3).mono ?_
                rintro e w4 ⟨rfl, rfl⟩
                rw [HVL.out]
                obtain ⟨z, hz⟩ : ∃ z, val8 (g7 M ++ [eighth M]) = z := ⟨_, rfl⟩
                rw [hz] at HSC ⊢
                have hown4 := ownsRow_later hown hB3
                have hbw := below_step hbel hB3
                have hsz := hbw.size
                have HNX : Hid ((O ++ [z]) ++ stuffL (L.drop (p + 7)) = stuffL L) := by unfold Hid; rw [show L.drop (p + 7) = L.drop (p + 8) by rw [List.drop_of_length_le (by omega), List.drop_of_length_le (by omega)]]; exact putO_next HO.out HSC.out HLD.out HT.out
                clear hz hrd3 hB3
                go_wp2_with (at_builtin; refine wpList_append_own _ rfl _ _ 22 rfl w1.heap.size 5 i0 (.int .u8 0) 1 1 Tryz.underlying22 hi hz0 hz1 hz2 rfl (by decide) _ _ _ rfl (hown4.alloc _) ⟨w3.heap.size, 0, none⟩ 1 1 [.int .u8 (z.toNat : Int)] rfl rfl (cell_one_new _ _ _) (by intro u hu; simp at hu; subst hu; rfl) (by unfold maxLen; omega) (by omega) (by simp; omega) ?_; intro v5 w5 hown5 hgrow5 _)
                have hB5 : Below w1.heap.size w1 w5 := (hbw.alloc hbw.size _).grown hgrow5 (by simp; omega) (fun g hk => (hown4.lt g hk).1)
                have HR : Hid (PutO L w1 v5 (.int .i64 ((p : Int) + 7)) w5) := ⟨O ++ [z], p + 7, by go_num, by omega, by rw [List.length_append, List.map_append]; exact hown5, HNX, hB5⟩
                clear hown5 hgrow5 hown4 hbw hB5
                go_wp2_with fail
                go_roundw
                case rel => exact HR.out
                case measure => simp [intOf] <;> omega
    · have hd : L.drop p = [] := List.drop_of_length_le (by omega)
      have e := HO.out
      rw [hd, stuff_nil, List.append_nil] at e
      have HOP : Hid (O = putSt b) := by rw [e]; exact HPL.out
      have p1 : ¬ (p : Int) < (L.length : Int) := by omega
      have hB := below_step HB1.out hbel
      clear hd e
      go_wp2_with fail
      go_ret
      rw [← HOP.out]
      exact RetY.own rfl hown hB
end Go.Proofs.YteppocjgodmpdaaGreatDoor
/-
  What the reference's call Get of layer 11 answers. No conditions but those typed.
-/
namespace Go.Proofs.YteppocjgodmpdaaGreatDoor
set_option maxRecDepth 100000
open Go.RowKit
set_option linter.unusedSimpArgs false
set_option linter.unusedVariables false

/-- A call that hands back a list of bytes and a bool. -/
def RetB (w : World) (l : List UInt8) (k : Bool) (e : Ending) (w' : World) : Prop := ∃ A n c, e = .returned (.tuple #[.slice A n c, .bool k]) ∧ Hid (l.length = n) ∧ n ≤ c ∧ Rd vB w' A l ∧ Below w.heap.size w w'
theorem strY (n : Nat) {w : World} {A : Option Addr} {l : List UInt8} {c : Nat} (H : Hid (l.length = n)) (h : Rd vB w A l) : ∀ W, Below w.heap.size w W → (convert 22 9 (.slice A n c)).run Tryz.prog W = .ok (.string (strL l)) W :=
  fun W hW => run_str W _ _ _ Tryz.underlying22 Tryz.underlying5 Tryz.underlying9 A l n c H.out (h.keep hW)
theorem bits_block : ∀ (b : List UInt8) (k : Nat) (h : k < b.length), ((bitsL b).drop (8 * k)).take 8 = bits8 b[k]
  | c :: b, 0, _ => rfl
  | c :: b, k + 1, h => by
    have e : bitsL (c :: b) = bits8 c ++ bitsL b := rfl
    have e8 : (bits8 c).length = 8 := rfl
    rw [e, show 8 * (k + 1) = 8 + 8 * k by omega, ← List.drop_drop, show (8 : Nat) = (bits8 c).length from rfl, List.drop_left]
    exact bits_block b k (by simpa using h)
theorem raw_snoc (b : List UInt8) (k : Nat) (h : k < b.length) : rawL (b.take (k + 1)) = rawL (b.take k) ++ rawG b[k] := by
  unfold rawL
  rw [List.take_succ_eq_append_getElem h, List.flatMap_append]
  simp
theorem raw_len (c : UInt8) : (rawG c).length ≤ 8 := by
  unfold rawG
  split
  · rw [List.length_take]; show min 7 8 ≤ 8; omega
  · exact Nat.le_refl 8
theorem raw_length_le : ∀ b : List UInt8, (rawL b).length ≤ 8 * b.length
  | [] => by simp [rawL]
  | c :: b => by
    have e : rawL (c :: b) = rawG c ++ rawL b := rfl
    rw [e, List.length_append, List.length_cons]
    have := raw_len c
    have := raw_length_le b
    omega
theorem cut_next : ∀ (l : List Bool), 7 < l.length → cut8 l = val8 (l.take 8) :: cut8 (l.drop 8)
  | a :: b :: c :: d :: e :: f :: g :: h :: t, _ => rfl
theorem cut_short : ∀ (l : List Bool), ¬ 7 < l.length → cut8 l = []
  | [], _ => rfl
  | [_], _ => rfl
  | [_, _], _ => rfl
  | [_, _, _], _ => rfl
  | [_, _, _, _], _ => rfl
  | [_, _, _, _, _], _ => rfl
  | [_, _, _, _, _, _], _ => rfl
  | [_, _, _, _, _, _, _], _ => rfl
  | _ :: _ :: _ :: _ :: _ :: _ :: _ :: _ :: _, h => by simp at h
theorem cut_length : ∀ (n : Nat) (l : List Bool), l.length ≤ n → 8 * (cut8 l).length ≤ l.length
  | 0, l, h => by
    have : l = [] := List.eq_nil_of_length_eq_zero (by omega)
    subst this
    exact Nat.le_refl _
  | n + 1, l, h => by
    by_cases h7 : 7 < l.length
    · rw [cut_next l h7, List.length_cons]
      have := cut_length n (l.drop 8) (by rw [List.length_drop]; omega)
      rw [List.length_drop] at this
      omega
    · rw [cut_short l h7]
      exact Nat.zero_le _
theorem cnt_bits (c : UInt8) : (cntT ((bits8 c).take 7) = 0 ↔ (bits8 c).take 7 = List.replicate 7 false) ∧ (cntT ((bits8 c).take 7) = 7 ↔ (bits8 c).take 7 = List.replicate 7 true) ∧ cntT ((bits8 c).take 7) ≤ 7 := cnt_seven _ _ _ _ _ _ _
def GetR (s : List UInt8) (w : World) (v i : Value) (wr : World) : Prop :=
  ∃ k : Nat, k ≤ s.length ∧ i = .int .i64 (k : Int) ∧ wr.ownsRow w.heap.size 5 1 v (oneL (rawL (s.take k))).length ((oneL (rawL (s.take k))).map vB) ∧ Below w.heap.size w wr
def CntSt (B : List Bool) (s i : Value) : Prop := ∃ j : Nat, j ≤ 7 ∧ i = .int .i64 (j : Int) ∧ s = .int .i64 (cntT (B.take j) : Int)
def CutR (R : List Bool) (w : World) (v i : Value) (wr : World) : Prop :=
  ∃ (k : Nat) (O : List UInt8), i = .int .i64 (k : Int) ∧ k ≤ R.length + 8 ∧ wr.ownsRow w.heap.size 5 1 v O.length (O.map vB) ∧ Hid (O ++ cut8 (R.drop k) = cut8 R) ∧ Below w.heap.size w wr
theorem strs_beq (a b : List UInt8) : ((strL a).toList == (strL b).toList) = (a == b) := by rw [strL_toList, strL_toList]

set_option maxHeartbeats 4000000 in
theorem refgetT_any (s : List UInt8) (n : Nat) (A : Option Addr) (c : Nat) (w : World) (HN : Hid (s.length = n)) (hr : Rd vB w A s) (hc : n ≤ c) (hn : n ≤ 10000) :
    Calls Tryz.prog 79 #[.slice A n c] w (RetB w (if putSt (candL s) = s then candL s else []) (decide (putSt (candL s) = s))) := by
  obtain ⟨i0, hi, hz0, hz1, hz2⟩ := info_parts info_u8
  obtain ⟨LG, hLG⟩ : ∃ L, (if putSt (candL s) = s then candL s else []) = L := ⟨_, rfl⟩
  obtain ⟨ok, hok⟩ : ∃ k, decide (putSt (candL s) = s) = k := ⟨_, rfl⟩
  rw [hLG, hok]
  have HLG := Lib.hid hLG
  have HOK := Lib.hid hok
  clear hLG hok
  go_enter Tryz.func79, Tryz.ntmps79
  go_wp2_with fail
  refine (refbits_any s n A c _ HN hr (by omega)).mono ?_
  rintro e w1 ⟨A1, n1, c1, rfl, HN1, hc1, hr1, hb1⟩
  have HL1 : Hid (n1 = 8 * n) := by unfold Hid; rw [← HN1.out, one_length, bits_length, HN.out]
  replace hr := hr.keep hb1
  have HB1 := Lib.hid hb1
  clear hb1
  go_wp2_with fail
  go_loopw [5, 6] (fun v i wr => GetR s w1 v i wr) (fun _ i _ => n - (intOf i).toNat)
  case atStart => exact ⟨0, Nat.zero_le _, rfl, World.ownsRow_nil _ _ _ _, Below.refl _ _⟩
  case round =>
    obtain ⟨k, hk, rfl, hown, hbel⟩ := hrel
    by_cases h : k < n
    · have hks : k < s.length := by rw [HN.out]; exact h
      have h8 : 8 * k < (oneL (bitsL s)).length := by rw [HN1.out, HL1.out]; omega
      obtain ⟨ga, oa, rfl, hga, hca⟩ := hr1.at h8
      have hmid := (hr1.keep hbel).mid (8 * k) (8 * k + 8) c1 (by rw [HN1.out]; exact hc1)
      have hc8 : 8 * k + 8 ≤ c1 := by have := HL1.out; omega
      rw [if_neg (by omega), show 8 * k + 8 - 8 * k = 8 by omega] at hmid
      have e1 : (some (⟨ga, oa, none⟩ : Addr)).map (·.add (8 * k * 1)) = some ⟨ga, oa + 8 * k, none⟩ := by
        simp only [Option.map_some, Nat.mul_one, Addr.add]
        split <;> simp_all
      have e2 : ((oneL (bitsL s)).drop (8 * k)).take 8 = oneL (bits8 s[k]) := by
        unfold oneL
        rw [← List.map_drop, ← List.map_take, bits_block s k hks]
      rw [e1, e2] at hmid
      have HRS := Lib.hid (raw_snoc s k hks)
      generalize s[k] = y at hmid HRS
      have HRG : Hid (rawG y = if (bits8 y).take 7 = List.replicate 7 false ∨ (bits8 y).take 7 = List.replicate 7 true then (bits8 y).take 7 else bits8 y) := rfl
      have HCN := Lib.hid (cnt_bits y)
      have hBl : (bits8 y).length = 8 := rfl
      have hRl : (rawL (s.take k)).length ≤ 80000 := by
        have := raw_length_le (s.take k)
        rw [List.length_take] at this
        omega
      generalize rawL (s.take k) = P at HRS hown hRl
      generalize bits8 y = B at hmid HRG HCN hBl
      obtain ⟨j8, hj8⟩ : ∃ j8, j8 = 8 * k := ⟨_, rfl⟩
      have k8 : 8 * (k : Int) = (j8 : Int) := by omega
      have k80 : (0 : Int) ≤ (j8 : Int) := by omega
      have k8c : (j8 : Int) + 8 ≤ (c1 : Int) := by omega
      have k8n : ¬ c1 = j8 := by omega
      have k8w : IntKind.i64.wrap (j8 : Int) = (j8 : Int) := by rw [IntKind.wrap_i64]; omega
      have k1 : (k : Int) < (n : Int) := by omega
      have k88 : j8 + 8 - j8 = 8 := by omega
      have kc8 : 8 ≤ c1 - j8 := by omega
      have k71 : (7 : Int) ≤ ((c1 - j8 : Nat) : Int) := by omega
      rw [← hj8] at hmid
      clear e1 e2 hca h8 hj8 hc8
      go_wp2_with fail
      have hsz := hbel.size
      go_loopw [8, 9] (fun sum i wx => CntSt B sum i ∧ wr = wx) (fun _ i _ => 7 - (intOf i).toNat)
      case atStart => exact ⟨⟨0, by omega, rfl, rfl⟩, rfl⟩
      case round =>
        obtain ⟨⟨j, hj, rfl, rfl⟩, rfl⟩ := hrel
        by_cases hj7 : j < 7
        · have hjB : j < B.length := by omega
          have hjo : j < (oneL B).length := by rw [one_length]; exact hjB
          obtain ⟨gx, ox, ex, hgx, hcx⟩ := hmid.at hjo
          injection ex with ex
          injection ex with ex1 ex2 _
          subst ex1 ex2
          have hc0 := hcx j hjo
          obtain ⟨q, hq⟩ : ∃ q, B[j] = q := ⟨_, rfl⟩
          have e : (oneL B)[j] = oneB q := by rw [← hq]; simp [oneL]
          rw [e] at hc0
          unfold vB at hc0
          have hct : cntT (B.take (j + 1)) = cntT (B.take j) + (oneB q).toNat := by rw [List.take_succ_eq_append_getElem hjB, hq, cnt_snoc]
          have hcl : cntT (B.take j) ≤ 7 := by
            unfold cntT
            refine Nat.le_trans (List.length_filter_le _ _) ?_
            rw [List.length_take]
            omega
          have hx2 : (oneB q).toNat ≤ 1 := by cases q <;> decide
          obtain ⟨x, hx⟩ : ∃ x, (oneB q).toNat = x := ⟨_, rfl⟩
          rw [hx] at hc0 hct hx2
          obtain ⟨C, hC⟩ : ∃ C, cntT (B.take j) = C := ⟨_, rfl⟩
          rw [hC] at hct hcl ⊢
          have hwx : IntKind.i64.wrap (x : Int) = (x : Int) := by rw [IntKind.wrap_i64]; omega
          have HR : Hid (CntSt B (.int .i64 ((C : Int) + (x : Int))) (.int .i64 ((j : Int) + 1))) := ⟨j + 1, hj7, by go_num, by rw [hct]; congr 1⟩
          have j1 : (j : Int) < 7 := by omega
          have j0 : (0 : Int) ≤ (j : Int) := by omega
          clear hcx hq e hx hC hct
          go_wp2_with fail
          go_roundw
          case rel => exact ⟨HR.out, trivial⟩
          case measure => simp [intOf] <;> omega
        · have ej : j = 7 := by omega
          subst ej
          obtain ⟨q0, q7, q8⟩ := HCN.out
          have ht7 : Rd vB wr (some ⟨ga, oa + j8, none⟩) (oneL (B.take 7)) := by
            have := hmid.take 7
            rwa [show (oneL B).take 7 = oneL (B.take 7) from (List.map_take).symm] at this
          have hB7 : (B.take 7).length = 7 := by rw [List.length_take]; omega
          obtain ⟨C, hC⟩ : ∃ C, cntT (B.take 7) = C := ⟨_, rfl⟩
          rw [hC] at q0 q7 q8 ⊢
          clear hC
          by_cases ca : C = 0 ∨ C = 7
          · have hrg : rawG y = B.take 7 := by
              rw [HRG.out, if_pos (ca.elim (fun h => .inl (q0.1 h)) (fun h => .inr (q7.1 h)))]
            rw [hrg] at HRS
            have hcut := fun W => run_cut_to (P := Tryz.prog) 22 5 Tryz.underlying22 size_uint8 (some ⟨ga, oa + j8, none⟩) 8 (c1 - j8) 7 (by omega) W
            have HB7 : Hid ((oneL (B.take 7)).length = 7) := by unfold Hid; rw [one_length]; exact hB7
            generalize B.take 7 = G at ht7 HRS HB7
            clear q0 q7 q8 hrg HRG HCN hmid hB7
            rcases ca with c0 | c0
            · subst c0
              go_wp2_with (at_builtin; refine wpList_append_rd _ rfl _ _ 22 rfl w1.heap.size 5 i0 (.int .u8 0) 1 Tryz.underlying22 hi hz0 hz1 hz2 rfl _ _ _ rfl hown _ (oneL G) _ (by rw [HB7.out]; rfl) ht7 vB_one (by rw [HB7.out, one_length]; unfold maxLen; omega) (by rw [HB7.out, one_length]; omega) hsz ?_; intro v4 w4 hown4 hgrow4)
              have hB4 : Below w1.heap.size w1 w4 := hbel.grown hgrow4 hsz (fun g hk => (hown.lt g hk).1)
              have HR : Hid (GetR s w1 v4 (.int .i64 ((k : Int) + 1)) w4) := ⟨k + 1, hks, by go_num, by rw [HRS.out, one_append, List.length_append, List.map_append]; exact hown4, hB4⟩
              clear hown4 hgrow4 hown hbel hB4
              go_wp2_with fail
              go_roundw
              case rel => exact HR.out
              case measure => simp [intOf] <;> omega
            · subst c0
              go_wp2_with (at_builtin; refine wpList_append_rd _ rfl _ _ 22 rfl w1.heap.size 5 i0 (.int .u8 0) 1 Tryz.underlying22 hi hz0 hz1 hz2 rfl _ _ _ rfl hown _ (oneL G) _ (by rw [HB7.out]; rfl) ht7 vB_one (by rw [HB7.out, one_length]; unfold maxLen; omega) (by rw [HB7.out, one_length]; omega) hsz ?_; intro v4 w4 hown4 hgrow4)
              have hB4 : Below w1.heap.size w1 w4 := hbel.grown hgrow4 hsz (fun g hk => (hown.lt g hk).1)
              have HR : Hid (GetR s w1 v4 (.int .i64 ((k : Int) + 1)) w4) := ⟨k + 1, hks, by go_num, by rw [HRS.out, one_append, List.length_append, List.map_append]; exact hown4, hB4⟩
              clear hown4 hgrow4 hown hbel hB4
              go_wp2_with fail
              go_roundw
              case rel => exact HR.out
              case measure => simp [intOf] <;> omega
          · have hrg : rawG y = B := by
              rw [HRG.out, if_neg (fun h => ca (h.elim (fun h => .inl (q0.2 h)) (fun h => .inr (q7.2 h))))]
            rw [hrg] at HRS
            have HB8 : Hid ((oneL B).length = 8) := by unfold Hid; rw [one_length]; exact hBl
            have n0 : C ≠ 0 := fun h => ca (.inl h)
            have n7 : C ≠ 7 := fun h => ca (.inr h)
            have c0 : ((C : Int) == 0) = false := beq_eq_false_iff_ne.2 (by omega)
            have c7 : ((C : Int) == 7) = false := beq_eq_false_iff_ne.2 (by omega)
            clear q0 q7 q8 hrg HRG HCN ht7 hB7 ca
            go_wp2_with (at_builtin; refine wpList_append_rd _ rfl _ _ 22 rfl w1.heap.size 5 i0 (.int .u8 0) 1 Tryz.underlying22 hi hz0 hz1 hz2 rfl _ _ _ rfl hown _ (oneL B) _ (by rw [HB8.out]; exact congrArg (fun m => Value.slice (some ⟨ga, oa + j8, none⟩) m (c1 - j8)) k88) hmid vB_one (by rw [HB8.out, one_length]; unfold maxLen; omega) (by rw [HB8.out, one_length]; omega) hsz ?_; intro v4 w4 hown4 hgrow4)
            have hB4 : Below w1.heap.size w1 w4 := hbel.grown hgrow4 hsz (fun g hk => (hown.lt g hk).1)
            have HR : Hid (GetR s w1 v4 (.int .i64 ((k : Int) + 1)) w4) := ⟨k + 1, hks, by go_num, by rw [HRS.out, one_append, List.length_append, List.map_append]; exact hown4, hB4⟩
            clear hown4 hgrow4 hown hbel hB4
            go_wp2_with fail
            go_roundw
            case rel => exact HR.out
            case measure => simp [intOf] <;> omega
    · rename World => w5
      have ek : k = s.length := by rw [HN.out]; have := HN.out; omega
      rw [ek, List.take_length] at hown
      have HCD : Hid (candL s = cut8 (rawL s)) := rfl
      have hRl : (rawL s).length ≤ 80000 := by
        have := raw_length_le s
        rw [HN.out] at this
        omega
      generalize rawL s = R at hown HCD hRl
      have hown' := hown
      obtain ⟨A5, c5, rfl, hc5, hr5⟩ := own_slice (l := oneL R) hown'
      have HR5 : Hid ((oneL R).length = R.length) := one_length R
      rw [HR5.out] at hc5 ⊢
      have hb15 := below_step HB1.out hbel
      replace hr := hr.keep hbel
      have k1 : ¬ (k : Int) < (n : Int) := by omega
      have hcutl := cut_length _ R (Nat.le_refl _)
      clear hown hown' hbel hr1 ek
      go_wp2_with fail
      go_loopw [10, 11] (fun v i wr => CutR R w5 v i wr) (fun _ i _ => R.length - (intOf i).toNat)
      case atStart => exact ⟨0, [], rfl, by omega, World.ownsRow_nil _ _ _ _, Lib.hid rfl, Below.refl _ _⟩
      case round =>
        obtain ⟨p, O, rfl, hp, hown, HO, hbel⟩ := hrel
        have hOl : O.length ≤ 80000 := by
          have := congrArg List.length HO.out
          rw [List.length_append] at this
          omega
        have hsz := hbel.size
        by_cases h7 : p + 7 < R.length
        · have p7 : (p : Int) + 7 < (R.length : Int) := by omega
          have hpo : p < (oneL R).length := by rw [HR5.out]; omega
          obtain ⟨gr, or', rfl, hgr, hcr⟩ := hr5.at hpo
          have hmid := (hr5.keep hbel).mid p (p + 8) c5 (by rw [HR5.out]; exact hc5)
          rw [if_neg (by omega), show p + 8 - p = 8 by omega] at hmid
          have e1 : (some (⟨gr, or', none⟩ : Addr)).map (·.add (p * 1)) = some ⟨gr, or' + p, none⟩ := by
            simp only [Option.map_some, Nat.mul_one, Addr.add]
            split <;> simp_all
          have e2 : ((oneL R).drop p).take 8 = oneL ((R.drop p).take 8) := by
            unfold oneL
            rw [← List.map_drop, ← List.map_take]
          rw [e1, e2] at hmid
          have hl8 : ((R.drop p).take 8).length = 8 := by rw [List.length_take, List.length_drop]; omega
          have HNX := Lib.hid (cut_next (R.drop p) (by rw [List.length_drop]; omega))
          have hdd : (R.drop p).drop 8 = R.drop (p + 8) := List.drop_drop
          rw [hdd] at HNX
          have HO2 := HO.out
          rw [HNX.out] at HO2
          obtain ⟨z, hz⟩ : ∃ z, val8 ((R.drop p).take 8) = z := ⟨_, rfl⟩
          rw [hz] at HO2
          have HO3 : Hid ((O ++ [z]) ++ cut8 (R.drop (p + 8)) = cut8 R) := by unfold Hid; rw [← HO2, List.append_assoc]; rfl
          have hz2 : val8 ((R.drop p).take 8) = z := hz
          generalize (R.drop p).take 8 = G at hmid hl8 hz2
          have HZ := Lib.hid hz2
          have p0 : (0 : Int) ≤ (p : Int) := by omega
          have p8c : (p : Int) + 8 ≤ (c5 : Int) := by omega
          have pnc : ¬ c5 = p := by omega
          have p88 : p + 8 - p = 8 := by omega
          have HL8 := Lib.hid hl8
          clear e1 e2 hcr hdd HO2 hz hz2 HNX hpo hl8
          go_wp2_with fail
          refine (refvalue_any G _ (c5 - p) _ HL8.out hmid).mono ?_
          rintro e w7 ⟨rfl, rfl⟩
          rw [HZ.out]
          go_wp2_with (at_builtin; refine wpList_append_own _ rfl _ _ 22 rfl w5.heap.size 5 i0 (.int .u8 0) 1 1 Tryz.underlying22 hi hz0 hz1 hz2 rfl (by decide) _ _ _ rfl (hown.alloc _) ⟨wr.heap.size, 0, none⟩ 1 1 [.int .u8 (z.toNat : Int)] rfl rfl (cell_one_new _ _ _) (by intro u hu; simp at hu; subst hu; rfl) (by unfold maxLen; omega) (by omega) (by simp; omega) ?_; intro v8 w8 hown8 hgrow8 _)
          have hB8 : Below w5.heap.size w5 w8 := (hbel.alloc hbel.size _).grown hgrow8 (by simp; omega) (fun g hk => (hown.lt g hk).1)
          have HR : Hid (CutR R w5 v8 (.int .i64 ((p : Int) + 8)) w8) := ⟨p + 8, O ++ [z], by go_num, by omega, by rw [List.length_append, List.map_append]; exact hown8, HO3, hB8⟩
          clear hown8 hgrow8 hown hbel hB8
          go_wp2_with fail
          go_roundw
          case rel => exact HR.out
          case measure => simp [intOf] <;> omega
        · have p7 : ¬ (p : Int) + 7 < (R.length : Int) := by omega
          have hcs := cut_short (R.drop p) (by rw [List.length_drop]; omega)
          have e := HO.out
          rw [hcs, List.append_nil] at e
          have HOC : Hid (O = candL s) := by unfold Hid; rw [HCD.out]; exact e
          obtain ⟨A6, c6, rfl, hc6, hr6⟩ := own_slice hown
          have HOL : Hid (O.length = O.length) := rfl
          have hs1 := strY (c := c) n HN (hr.keep hbel)
          have hb16 := below_step hb15 hbel
          have hOs : O.length ≤ 10000 := by rw [e]; omega
          clear hown hr5 hr hcs e
          obtain ⟨T, hT⟩ : ∃ T, putSt O = T := ⟨_, rfl⟩
          have hst : ((strL T).toList == (strL s).toList) = ok := by
            rw [strs_beq, ← HOK.out, ← HOC.out, hT, Bool.eq_iff_iff, beq_iff_eq, decide_eq_true_iff]
          have hsn : ((strL T).toList != (strL s).toList) = !ok := by rw [bne, hst]
          have HLO : Hid (LG = if ok = true then O else []) := by
            unfold Hid
            rw [← HLG.out, ← HOC.out, hT]
            have hk := HOK.out
            rw [← HOC.out, hT] at hk
            by_cases h : T = s
            · rw [if_pos h, if_pos (by rw [← hk]; exact decide_eq_true h)]
            · rw [if_neg h, if_neg (by rw [← hk, decide_eq_false h]; decide)]
          have HT := Lib.hid hT
          clear hT
          go_upto_region 20 with fail
          have hBase := (Below.refl wr.heap.size wr).drew
          refine wp_region_plan (.step 0 false (.step 3 false (.step 4 false (.step 1 true (.step 2 false (.step 5 false (.nil))))))) (by kernel_rfl) (by kernel_rfl) (by rfl) (by kernel_rfl) ?_
          iterate 3 (refine plan_read rfl (by rfl) (v := ?_) ?_ ?_; rotate_left 1; (intro W hW; have hW0 := below_step hBase hW; (try dsimp only at hW); go_simp <;> with_reducible rfl); simp only [List.getElem_toArray, List.getElem_cons_zero, List.getElem_cons_succ, Act.put, List.setIfInBounds_toArray, List.set_cons_zero, List.set_cons_succ])
          (refine plan_make rfl (by rfl) (fun K hK => ?_); go_simp; (refine (refputSt_any O O.length _ c6 _ HOL (hr6.keep hBase) (by omega)).mono ?_; rintro e w7 ⟨A7, n7, c7, rfl, HN7, hc7, hr7, hbx⟩; rw [HT.out] at HN7 hr7); refine hK.out _ _ hbx ?_; clear hK K; replace hBase := below_step hBase hbx)
          have hs2 := strY (c := c7) n7 HN7 hr7
          iterate 2 (refine plan_read rfl (by rfl) (v := ?_) ?_ ?_; rotate_left 1; (intro W hW; have hW0 := below_step hBase hW; (try dsimp only at hW); go_simp <;> with_reducible rfl); simp only [List.getElem_toArray, List.getElem_cons_zero, List.getElem_cons_succ, Act.put, List.setIfInBounds_toArray, List.set_cons_zero, List.set_cons_succ])
          refine plan_done ?_
          have hr8 := hr6.keep hBase
          have hB8 := below_step hb16 hBase
          clear hs1 hs2 hst hr6 hr7 hbel
          cases ok
          · have hsn' : ((strL T).toList != (strL s).toList) = true := hsn
            clear hsn
            go_wp2_with fail
            go_ret2
            rw [HLO.out]
            exact ⟨none, 0, 0, rfl, Lib.hid rfl, Nat.le_refl _, Rd.nil, hB8⟩
          · have hsn' : ((strL T).toList != (strL s).toList) = false := hsn
            clear hsn
            go_wp2_with fail
            go_ret2
            have e : LG = O := by simpa using HLO.out
            rw [e]
            exact ⟨A6, O.length, c6, rfl, Lib.hid rfl, hc6, hr8, hB8⟩
end Go.Proofs.YteppocjgodmpdaaGreatDoor
/-
  Bits held in a number, and one group, as plain functions. No conditions but those typed.
-/
namespace Go.Proofs.YteppocjgodmpdaaGreatDoor
set_option maxRecDepth 100000
set_option linter.unusedVariables false
set_option linter.unusedSimpArgs false

/-! ### Bits held in a number -/
/-- The number of bits, the highest first. -/
def numB (l : List Bool) : Nat := l.foldl (fun v x => 2 * v + x.toNat) 0
theorem numB_snoc (l : List Bool) (x : Bool) : numB (l ++ [x]) = 2 * numB l + x.toNat := by unfold numB; rw [List.foldl_append]; rfl
theorem snoc_indSt {p : List Bool → Prop} (h0 : p []) (h1 : ∀ l x, p l → p (l ++ [x])) (l : List Bool) : p l := by
  have : ∀ (n : Nat) (l : List Bool), l.length = n → p l := by
    intro n
    induction n with
    | zero => intro l hl; rw [List.eq_nil_of_length_eq_zero hl]; exact h0
    | succ n ih =>
      intro l hl
      have hne : l ≠ [] := by intro e; subst e; simp at hl
      rw [← List.dropLast_concat_getLast hne]
      exact h1 _ _ (ih _ (by rw [List.length_dropLast, hl]; rfl))
  exact this _ l rfl
theorem numB_append (a b : List Bool) : numB (a ++ b) = numB a * 2 ^ b.length + numB b := by
  refine snoc_indSt (p := fun b => numB (a ++ b) = numB a * 2 ^ b.length + numB b) ?_ ?_ b
  · simp [numB]
  · intro l x ih
    rw [← List.append_assoc, numB_snoc, numB_snoc, ih, List.length_append, List.length_singleton, Nat.pow_succ]
    have : numB a * (2 ^ l.length * 2) = 2 * (numB a * 2 ^ l.length) := by rw [← Nat.mul_assoc, Nat.mul_comm]
    omega
theorem numB_lt (l : List Bool) : numB l < 2 ^ l.length := by
  refine snoc_indSt (p := fun l => numB l < 2 ^ l.length) (by decide) ?_ l
  intro l x ih
  rw [numB_snoc, List.length_append, List.length_singleton, Nat.pow_succ]
  have : x.toNat < 2 := by cases x <;> decide
  omega
theorem val8_num (l : List Bool) : (val8 l).toNat = numB l % 256 := by
  refine snoc_indSt (p := fun l => (val8 l).toNat = numB l % 256) rfl ?_ l
  intro l x ih
  have e : val8 (l ++ [x]) = 2 * val8 l + oneB x := by unfold val8; rw [List.foldl_append]; rfl
  have ex : (oneB x).toNat = x.toNat := by cases x <;> rfl
  have : x.toNat < 2 := by cases x <;> decide
  rw [e, numB_snoc, UInt8.toNat_add, UInt8.toNat_mul, ih, ex]
  have : (2 : UInt8).toNat = 2 := rfl
  rw [this]
  omega
theorem bits_num (c : UInt8) : numB (bits8 c) = c.toNat := by
  have h := val8_num (bits8 c)
  have h2 := numB_lt (bits8 c)
  rw [val_bits] at h
  have : (2 : Nat) ^ (bits8 c).length = 256 := by rw [show (bits8 c).length = 8 from rfl]
  omega
/-- The lowest bits of a number are those: all of P. -/
def Holds (H : Nat) (P : List Bool) : Prop := H % 2 ^ P.length = numB P
theorem two64 : 18446744073709551616 = 2 ^ 64 := (by simp)
theorem Holds.nil (H : Nat) : Holds H [] := by unfold Holds; simp [numB]; omega
theorem Holds.more {H : Nat} {P : List Bool} (h : Holds H P) (R : List Bool) (hl : P.length + R.length ≤ 64) : Holds ((H * 2 ^ R.length + numB R) % 18446744073709551616) (P ++ R) := by
  unfold Holds at h ⊢
  have hp : (2 : Nat) ^ 64 = 2 ^ (P.length + R.length) * 2 ^ (64 - (P.length + R.length)) := by rw [← Nat.pow_add]; congr 1; omega
  rw [show 18446744073709551616 = 2 ^ 64 from two64, List.length_append, hp, Nat.mod_mul_right_mod, numB_append, ← h, Nat.pow_add]
  have hr := numB_lt R
  have e : H * 2 ^ R.length + numB R = (H / 2 ^ P.length) * (2 ^ P.length * 2 ^ R.length) + (H % 2 ^ P.length * 2 ^ R.length + numB R) := by
    conv => lhs; rw [← Nat.div_add_mod H (2 ^ P.length)]
    rw [Nat.add_mul, Nat.mul_comm (2 ^ P.length) (H / _), Nat.mul_assoc]
    omega
  rw [e, Nat.mul_comm (H / _), Nat.mul_add_mod, Nat.mod_eq_of_lt]
  have h1 : H % 2 ^ P.length + 1 ≤ 2 ^ P.length := Nat.mod_lt _ (Nat.two_pow_pos _)
  have h2 := Nat.mul_le_mul_right (2 ^ R.length) h1
  rw [Nat.add_mul, Nat.one_mul] at h2
  omega
theorem Holds.rest {H : Nat} {P : List Bool} (h : Holds H P) (k : Nat) : Holds H (P.drop k) := by
  unfold Holds at h ⊢
  have e : numB P = numB (P.take k) * 2 ^ (P.drop k).length + numB (P.drop k) := by rw [← numB_append, List.take_append_drop]
  have hd : 2 ^ (P.drop k).length ∣ 2 ^ P.length := Nat.pow_dvd_pow 2 (by rw [List.length_drop]; omega)
  rw [← Nat.mod_mod_of_dvd H hd, h, e, Nat.mul_add_mod_self_right, Nat.mod_eq_of_lt (numB_lt _)]
theorem Holds.top {H : Nat} {P : List Bool} (h : Holds H P) (h8 : 8 ≤ P.length) : H / 2 ^ (P.length - 8) % 256 = (val8 (P.take 8)).toNat := by
  unfold Holds at h
  have e : numB P = numB (P.take 8) * 2 ^ (P.drop 8).length + numB (P.drop 8) := by rw [← numB_append, List.take_append_drop]
  have hl : (P.drop 8).length = P.length - 8 := List.length_drop
  have hp : (2 : Nat) ^ P.length = 2 ^ (P.length - 8) * 256 := by rw [show (256 : Nat) = 2 ^ 8 by decide, ← Nat.pow_add]; congr 1; omega
  have ht := numB_lt (P.take 8)
  rw [List.length_take, Nat.min_eq_left h8] at ht
  rw [val8_num, Nat.mod_eq_of_lt (show numB (P.take 8) < 256 from ht), ← Nat.mod_mul_right_div_self, ← hp, h, e, hl, Nat.mul_comm]
  have := numB_lt (P.drop 8)
  rw [hl] at this
  rw [Nat.mul_add_div (Nat.two_pow_pos _), Nat.div_eq_of_lt this]
  rfl
theorem num_ones (n : Nat) : numB (List.replicate n true) + 1 = 2 ^ n := by
  induction n with
  | zero => rfl
  | succ n ih =>
    rw [List.replicate_succ', numB_snoc, Nat.pow_succ]
    show 2 * _ + 1 + 1 = _
    omega
/-- What is left, and ones behind it, as the program's shifts have it. -/
theorem Holds.last {H : Nat} {P : List Bool} (h : Holds H P) (h8 : P.length ≤ 8) : ((H + 1) * 2 ^ (8 - P.length) - 1) % 256 = (val8 (P ++ List.replicate (8 - P.length) true)).toNat := by
  unfold Holds at h
  rw [val8_num, numB_append, List.length_replicate, ← h]
  have h1 := num_ones (8 - P.length)
  have hp : (256 : Nat) = 2 ^ P.length * 2 ^ (8 - P.length) := by rw [← Nat.pow_add, show P.length + (8 - P.length) = 8 by omega]
  have e : (H + 1) * 2 ^ (8 - P.length) - 1 = 256 * (H / 2 ^ P.length) + (H % 2 ^ P.length * 2 ^ (8 - P.length) + numB (List.replicate (8 - P.length) true)) := by
    conv => lhs; rw [← Nat.div_add_mod H (2 ^ P.length)]
    rw [Nat.add_mul, Nat.add_mul, Nat.one_mul, hp, Nat.mul_right_comm]
    omega
  rw [e, Nat.mul_add_mod]

/-! ### One group -/
def gz (y : UInt8) : UInt8 := val8 (g7 (bits8 y) ++ [eighth (bits8 y)])
def gt (y : UInt8) : Nat := taken (bits8 y)
def alikeT (y : UInt8) : Bool := decide (y.toNat / 2 = 0 ∨ y.toNat / 2 = 127)
theorem g_table : ∀ n, n < 256 → (gt (UInt8.ofNat n) = if alikeT (UInt8.ofNat n) then 7 else 8) ∧ (gz (UInt8.ofNat n)).toNat = (if alikeT (UInt8.ofNat n) then (n &&& 254) ||| (1 - n / 128) else n) ∧ rawG (UInt8.ofNat n) = (if alikeT (UInt8.ofNat n) then (bits8 (UInt8.ofNat n)).take 7 else bits8 (UInt8.ofNat n)) := by decide +kernel
theorem g_eq (M : List Bool) (y : UInt8) (h : bits8 y = M.take 8 ++ List.replicate (8 - M.length) true) : gz y = val8 (g7 M ++ [eighth M]) ∧ gt y = taken M := by
  rw [← g8_pad] at h
  have h1 : g7 (bits8 y) = g7 M := by rw [h]; rfl
  have h2 : (bits8 y).getD 7 true = M.getD 7 true := by rw [h]; rfl
  unfold gz gt eighth taken
  rw [h1, h2]
  exact ⟨rfl, rfl⟩
theorem val_take (M : List Bool) (h : 8 ≤ M.length) (y : UInt8) (hy : y.toNat = (val8 (M.take 8)).toNat) : bits8 y = M.take 8 ++ List.replicate (8 - M.length) true := by
  rw [UInt8.toNat_inj.1 hy, bits_val8 _ (by rw [List.length_take]; omega), show 8 - M.length = 0 by omega, List.replicate_zero, List.append_nil]
theorem val_last (M : List Bool) (h : M.length ≤ 8) (y : UInt8) (hy : y.toNat = (val8 (M ++ List.replicate (8 - M.length) true)).toNat) : bits8 y = M.take 8 ++ List.replicate (8 - M.length) true := by
  rw [UInt8.toNat_inj.1 hy, bits_val8 _ (by rw [List.length_append, List.length_replicate]; omega), List.take_of_length_le h]
end Go.Proofs.YteppocjgodmpdaaGreatDoor
/-
  What bytes.Equal answers. No conditions but those typed.
-/
namespace Go.Proofs.YteppocjgodmpdaaGreatDoor
set_option maxRecDepth 100000
open Go.RowKit
set_option linter.unusedSimpArgs false
set_option linter.unusedVariables false

theorem str_beq (a b : List UInt8) : ((strL a).toList == (strL b).toList) = decide (a = b) := by
  unfold strL
  rw [ByteArray.toList_mk, ByteArray.toList_mk]
  by_cases h : a = b <;> simp [h]

theorem equal_any (a b : List UInt8) (n m : Nat) (A B : Option Addr) (c d : Nat) (w : World) (HN : Hid (a.length = n)) (HM : Hid (b.length = m)) (ha : Rd vB w A a) (hb : Rd vB w B b) :
    Calls Tryz.prog 47 #[.slice A n c, .slice B m d] w fun e w' => e = .returned (.bool (decide (a = b))) ∧ w = w' := by
  have s0 : (convert 22 9 (.slice A n c)).run Tryz.prog w = .ok (.string (strL a)) w := run_str _ _ _ _ Tryz.underlying22 Tryz.underlying5 Tryz.underlying9 _ a _ _ HN.out ha
  have s1 : (convert 22 9 (.slice B m d)).run Tryz.prog w = .ok (.string (strL b)) w := run_str _ _ _ _ Tryz.underlying22 Tryz.underlying5 Tryz.underlying9 _ b _ _ HM.out hb
  have b0 := str_beq a b
  obtain ⟨r, hr⟩ : ∃ r, r = decide (a = b) := ⟨_, rfl⟩
  rw [← hr] at b0 ⊢
  generalize strL a = SA at s0 b0
  generalize strL b = SB at s1 b0
  clear hr ha hb
  go_enter Tryz.func47, Tryz.ntmps47
  go_wp2_with fail
  go_ret
  exact ⟨rfl, rfl⟩
end Go.Proofs.YteppocjgodmpdaaGreatDoor
/-
  What the program's calls of layer 11 answer, over the landed code. No conditions but those typed.
-/
namespace Go.Proofs.YteppocjgodmpdaaGreatDoor
set_option maxRecDepth 100000
open Go.RowKit
set_option linter.unusedSimpArgs false
set_option linter.unusedVariables false

/-- A call that hands back a list of bytes and an error. -/
def RetF (w : World) (l : List UInt8) (k : Int) (e : Ending) (w' : World) : Prop := ∃ A n c, e = .returned (.tuple #[.slice A n c, .int .i64 k]) ∧ Hid (l.length = n) ∧ n ≤ c ∧ Rd vB w' A l ∧ Below w.heap.size w w'
def mostSt (n : Int) : Int := if 0 ≤ n ∧ n ≤ 1048576 then (8 * n + 6) / 7 else 0

/-! ### alike, group, Most -/
theorem alike_any (y : UInt8) (w : World) : Calls Tryz.prog 138 #[.int .u8 (y.toNat : Int)] w fun e w' => e = .returned (.bool (alikeT y)) ∧ w = w' := by
  have hy := y.toNat_lt
  have HE : Hid (alikeT y = decide (y.toNat / 2 = 0 ∨ y.toNat / 2 = 127)) := rfl
  rw [HE.out]
  clear HE
  generalize y.toNat = m at hy
  obtain ⟨q, hq⟩ : ∃ q, m / 2 = q := ⟨_, rfl⟩
  have e1 : (m : Int) / 2 = (q : Int) := by omega
  have e2 : (m : Int).tdiv 2 = (q : Int) := by rw [Int.tdiv_eq_ediv_of_nonneg (by omega)]; exact e1
  have e3 : IntKind.u8.wrap (q : Int) = (q : Int) := by rw [IntKind.wrap_u8']; omega
  have e4 : (q : Int) % 256 = (q : Int) := by omega
  rw [hq]
  by_cases h0 : q = 0
  · subst h0
    clear hq
    go_enter Tryz.func138, Tryz.ntmps138
    go_wp2_with fail
    go_ret
    exact ⟨rfl, rfl⟩
  · have h1 : ((q : Int) == 0) = false := beq_eq_false_iff_ne.2 (by omega)
    by_cases h7 : q = 127
    · subst h7
      clear hq h0
      go_enter Tryz.func138, Tryz.ntmps138
      go_wp2_with fail
      go_ret
      exact ⟨rfl, rfl⟩
    · have h2 : ((q : Int) == 127) = false := beq_eq_false_iff_ne.2 (by omega)
      have e : decide (q = 0 ∨ q = 127) = false := decide_eq_false (fun h => h.elim h0 h7)
      rw [e]
      clear hq h0 h7 e
      go_enter Tryz.func138, Tryz.ntmps138
      go_wp2_with fail
      go_ret
      exact ⟨rfl, rfl⟩
theorem gz_val : ∀ n : Nat, n < 256 → bits .or .u8 (bits .andNot .u8 (n : Int) 1) (1 - (n : Int) / 128) = (((n &&& 254) ||| (1 - n / 128) : Nat) : Int) := by decide +kernel
theorem group_any (y : UInt8) (w : World) : Calls Tryz.prog 122 #[.int .u8 (y.toNat : Int)] w fun e w' => e = .returned (.tuple #[.int .u8 ((gz y).toNat : Int), .int .i64 (gt y : Int)]) ∧ w = w' := by
  have HT := Lib.hid (g_table y.toNat y.toNat_lt)
  have HA := Lib.hid (alike_any y w)
  have hy := y.toNat_lt
  unfold Hid at HT
  rw [UInt8.ofNat_toNat] at HT
  obtain ⟨h1, h2, _⟩ := HT
  obtain ⟨b, hb⟩ : ∃ b, alikeT y = b := ⟨_, rfl⟩
  rw [hb] at HA h1 h2
  rw [h1, h2]
  clear h1 h2 hb
  have HZ := Lib.hid (gz_val y.toNat hy)
  generalize y.toNat = m at hy HA HZ
  cases b
  · go_enter Tryz.func122, Tryz.ntmps122
    go_wp2_with fail
    refine HA.out.mono ?_
    rintro e w1 ⟨rfl, rfl⟩
    go_wp2_with fail
    go_ret2
    exact ⟨rfl, rfl⟩
  · have hz := HZ.out
    obtain ⟨q, hq⟩ : ∃ q, m / 128 = q := ⟨_, rfl⟩
    have e1 : (m : Int) / 128 = (q : Int) := by omega
    rw [e1] at hz
    have e4 : (q : Int) % 256 = (q : Int) := by omega
    have e5 : (1 - (q : Int)) % 256 = 1 - (q : Int) := by omega
    simp only [if_true]
    generalize ((m &&& 254) ||| (1 - m / 128) : Nat) = z at hz ⊢
    clear hq
    go_enter Tryz.func122, Tryz.ntmps122
    go_wp2_with fail
    refine HA.out.mono ?_
    rintro e w1 ⟨rfl, rfl⟩
    go_wp2_with fail
    go_ret2
    exact ⟨rfl, rfl⟩
/-! ### Put -/
def PutV (b : List UInt8) (R : List Bool) (H : Nat) (w : World) (s l : Value) (wr : World) : Prop :=
  ∃ (O : List UInt8) (P : List Bool) (p : Nat), l = .int .i64 (p : Int) ∧ p ≤ 15 ∧ Hid (P.length = p) ∧ Hid (Holds H P) ∧ wr.ownsRow w.heap.size 5 1 s O.length (O.map vB) ∧ Hid (O ++ stuffL (P ++ R) = putSt b) ∧ Below w.heap.size w wr
def PutU (b : List UInt8) (w : World) (s h l i : Value) (wr : World) : Prop :=
  ∃ (k H : Nat) (O : List UInt8) (P : List Bool) (p : Nat), k ≤ b.length ∧ i = .int .i64 (k : Int) ∧ h = .int .u64 (H : Int) ∧ H < 18446744073709551616 ∧ l = .int .i64 (p : Int) ∧ p ≤ 7 ∧ Hid (P.length = p) ∧ Hid (Holds H P) ∧ wr.ownsRow w.heap.size 5 1 s O.length (O.map vB) ∧ Hid (O ++ stuffL (P ++ bitsL (b.drop k)) = putSt b) ∧ Below w.heap.size w wr
theorem held_more (H c : Nat) (hc : c < 256) : bits .or .u64 (IntKind.u64.wrap ((H : Int) * 256)) (c : Int) = (((H * 256 + c) % 18446744073709551616 : Nat) : Int) := by
  have e : IntKind.u64.wrap ((H : Int) * 256) = ((2 ^ 8 * (H % 72057594037927936) : Nat) : Int) := by
    rw [IntKind.wrap_u64]
    omega
  rw [e, u64_or_nat _ _ (by omega) (by omega), ← Nat.two_pow_add_eq_or_of_lt (by omega)]
  congr 1
  omega
theorem put_bound {O : List UInt8} {L : List Bool} {b : List UInt8} (h : O ++ stuffL L = putSt b) (hb : b.length ≤ 10000) : O.length ≤ 12000 := by
  have h1 := congrArg List.length h
  rw [List.length_append] at h1
  have := (put_length b).2
  omega
theorem put_round {O : List UInt8} {P R : List Bool} {T : List UInt8} (y : UInt8) (p : Nat) (hp : P.length = p) (h8 : 8 ≤ p) (hy : y.toNat = (val8 (P.take 8)).toNat) (h : O ++ stuffL (P ++ R) = T) :
    (O ++ [gz y]) ++ stuffL (P.drop (gt y) ++ R) = T ∧ 7 ≤ gt y ∧ gt y ≤ 8 ∧ (P.drop (gt y)).length = p - gt y := by
  have ht : (P ++ R).take 8 = P.take 8 := List.take_append_of_le_length (by omega)
  obtain ⟨e1, e2⟩ := g_eq (P ++ R) y (val_take (P ++ R) (by rw [List.length_append]; omega) y (by rw [ht]; exact hy))
  have hb := taken_pos (P ++ R)
  rw [← e2] at hb
  refine ⟨?_, hb.1, hb.2, by rw [List.length_drop, hp]⟩
  rw [← h, stuff_cons (P ++ R) (fun e => by have := congrArg List.length e; rw [List.length_append, List.length_nil] at this; omega), ← e1, ← e2, List.drop_append_of_le_length (by omega), List.append_assoc]
  rfl
theorem put_end {O : List UInt8} {P : List Bool} {T : List UInt8} (y : UInt8) (p : Nat) (hp : P.length = p) (h0 : 0 < p) (h8 : p ≤ 7) (hy : y.toNat = (val8 (P ++ List.replicate (8 - P.length) true)).toNat) (h : O ++ stuffL (P ++ []) = T) :
    O ++ [gz y] = T := by
  rw [List.append_nil] at h
  obtain ⟨e1, e2⟩ := g_eq P y (val_last P (by omega) y hy)
  have hb := taken_pos P
  rw [← h, stuff_cons P (fun e => by rw [e] at hp; simp at hp; omega), ← e1, List.drop_of_length_le (by omega)]
  rfl
theorem held_last (H p : Nat) (hp : p ≤ 7) (v : Nat) (hv : ((H + 1) * 2 ^ (8 - p) - 1) % 256 = v) (a b c : Int) (ha : a = IntKind.u64.wrap ((H : Int) + 1)) (hb : b = IntKind.u64.wrap (a * 2 ^ (8 - p))) (hc : c = IntKind.u64.wrap (b - 1)) : c % 256 = (v : Int) := by
  rw [IntKind.wrap_u64] at ha hb hc
  have h1 : 1 ≤ (H + 1) * 2 ^ (8 - p) := Nat.mul_pos (Nat.succ_pos _) (Nat.two_pow_pos _)
  have e : (((H : Int) + 1) * 2 ^ (8 - p)) % 256 = (a * 2 ^ (8 - p)) % 256 := by
    have e1 : a = ((H : Int) + 1) - 18446744073709551616 * (((H : Int) + 1) / 18446744073709551616) := by omega
    rw [e1, Int.sub_mul, Int.mul_assoc 18446744073709551616]
    generalize ((H : Int) + 1) * 2 ^ (8 - p) = x
    generalize ((H : Int) + 1) / 18446744073709551616 * 2 ^ (8 - p) = r
    omega
  have e2 : (((H + 1) * 2 ^ (8 - p) : Nat) : Int) = ((H : Int) + 1) * 2 ^ (8 - p) := by rw [Int.natCast_mul, Int.natCast_pow]; rfl
  rw [← e2] at e
  generalize (H + 1) * 2 ^ (8 - p) = x at *
  omega
set_option maxHeartbeats 4000000 in
theorem putF_any (b : List UInt8) (n : Nat) (A : Option Addr) (c : Nat) (w : World) (HN : Hid (b.length = n)) (hr : Rd vB w A b) (hc : n ≤ c) (hn : n ≤ 10000) :
    Calls Tryz.prog 70 #[.slice A n c] w (RetY w (putSt b)) := by
  obtain ⟨i0, hi, hz0, hz1, hz2⟩ := info_parts info_u8
  have e1 := HN.out
  subst e1
  go_enter Tryz.func70, Tryz.ntmps70
  go_wp2_with fail
  go_loopw [3, 4, 5, 14] (fun s h l i wr => PutU b w s h l i wr) (fun _ _ _ i _ => b.length - (intOf i).toNat)
  case atStart => exact ⟨0, 0, [], [], 0, Nat.zero_le _, rfl, rfl, by omega, rfl, by omega, rfl, Holds.nil 0, World.ownsRow_nil _ _ _ _, rfl, Below.refl _ _⟩
  case round =>
    obtain ⟨k, H, O, P, p, hk, rfl, rfl, hH, rfl, hp, HP, HH, hown, HO, hbel⟩ := hrel
    by_cases h : k < b.length
    · obtain ⟨g, o, rfl, hg, hcell⟩ := hr.at h
      have hc0 := (hbel.cell (p := ⟨g, o + k, none⟩) hg).trans (hcell k h)
      have HDR : Hid (b.drop k = b[k] :: b.drop (k + 1)) := List.drop_eq_getElem_cons h
      generalize b[k] = y at hc0 HDR
      have hy := y.toNat_lt
      have HM : Hid (Holds ((H * 256 + y.toNat) % 18446744073709551616) (P ++ bits8 y)) := by
        have := Holds.more HH.out (bits8 y) (by rw [HP.out]; show p + 8 ≤ 64; omega)
        rw [bits_num] at this
        exact this
      have HMO := Lib.hid (held_more H y.toNat hy)
      have HO' : Hid (O ++ stuffL ((P ++ bits8 y) ++ bitsL (b.drop (k + 1))) = putSt b) := by
        have := HO.out
        rw [HDR.out] at this
        rw [List.append_assoc]
        exact this
      have hV : Hid (y.toNat = y.toNat) := rfl
      unfold vB at hc0
      generalize y.toNat = m at hy hc0 HM HMO
      obtain ⟨H', hH'⟩ : ∃ H', (H * 256 + m) % 18446744073709551616 = H' := ⟨_, rfl⟩
      have hHlt : H' < 18446744073709551616 := by omega
      rw [hH'] at HM HMO
      have hmo := HMO.out
      have HP' : Hid ((P ++ bits8 y).length = p + 8) := by unfold Hid; rw [List.length_append, HP.out]; rfl
      have k1 : (k : Int) < (b.length : Int) := by omega
      have k0 : (0 : Int) ≤ (k : Int) := by omega
      clear hcell hV hH' HMO HDR HO HH HP
      go_wp2_with fail
      go_loopw [3, 5] (fun s l wx => PutV b (bitsL (b.drop (k + 1))) H' w s l wx) (fun _ l _ => (intOf l).toNat)
      case atStart => exact ⟨O, P ++ bits8 y, p + 8, by go_num, by omega, HP', HM, hown, HO', hbel⟩
      case round =>
        clear hown hbel HO' HP' HM hc0 hp hmo
        obtain ⟨O, P, p, rfl, hp, HP, HH, hown, HO, hbel⟩ := hrel
        by_cases h8 : 8 ≤ p
        · have j8 : (8 : Int) ≤ (p : Int) := by omega
          have jw : IntKind.i64.wrap ((p : Int) - 8) = ((p - 8 : Nat) : Int) := by rw [IntKind.wrap_i64]; omega
          have j0 : (0 : Int) ≤ (p : Int) - 8 := by omega
          have hv0 := HH.out.top (by rw [HP.out]; exact h8)
          rw [HP.out] at hv0
          obtain ⟨y2, hy2⟩ : ∃ y2, val8 (P.take 8) = y2 := ⟨_, rfl⟩
          rw [hy2] at hv0
          obtain ⟨r1, r2, r3, r4⟩ := put_round y2 p HP.out h8 (by rw [hy2]) HO.out
          have hrest := HH.out.rest (gt y2)
          have hv : (H' : Int) / 2 ^ (p - 8) % 256 = (y2.toNat : Int) := by rw [← hv0, Int.natCast_emod, Int.natCast_ediv, Int.natCast_pow]; rfl
          have HR1 := Lib.hid r1
          have HR4 := Lib.hid r4
          have HRS := Lib.hid hrest
          have HBD := Lib.hid (put_bound HO.out hn)
          have HGA := Lib.hid fun W => group_any y2 W
          clear hv0 hy2 r1 r4 hrest
          go_wp2_with fail
          rw [hv]
          obtain ⟨hl, hhl⟩ : ∃ hl : Int, (H' : Int) / 2 ^ (p - 8) = hl := ⟨_, rfl⟩
          rw [hhl]
          clear hhl hv
          refine (HGA.out _).mono ?_
          rintro e w1 ⟨rfl, rfl⟩
          generalize gz y2 = z at HR1 HGA ⊢
          generalize gt y2 = q at r2 r3 HR1 HR4 HRS HGA ⊢
          have hsz := hbel.size
          have hb1 := HBD.out
          clear HGA HBD
          have jq : IntKind.i64.wrap ((p : Int) - (q : Int)) = (p : Int) - (q : Int) := by rw [IntKind.wrap_i64]; omega
          go_wp2_with (at_builtin; refine wpList_append_own _ rfl _ _ 22 rfl w.heap.size 5 i0 (.int .u8 0) 1 1 Tryz.underlying22 hi hz0 hz1 hz2 rfl (by decide) _ _ _ rfl (hown.alloc _) ⟨wr.heap.size, 0, none⟩ 1 1 [.int .u8 (z.toNat : Int)] rfl rfl (cell_one_new _ _ _) (by intro u hu; simp at hu; subst hu; rfl) (by unfold maxLen; omega) (by omega) (by simp; omega) ?_; intro v5 w5 hown5 hgrow5 _)
          have hB5 : Below w.heap.size w w5 := (hbel.alloc hbel.size _).grown hgrow5 (by simp; omega) (fun g hk => (hown.lt g hk).1)
          have HR : Hid (PutV b (bitsL (b.drop (k + 1))) H' w v5 (.int .i64 ((p : Int) - (q : Int))) w5) := ⟨O ++ [z], P.drop q, p - q, by congr 1; omega, by omega, HR4.out, HRS.out, by rw [List.length_append, List.map_append]; exact hown5, HR1.out, hB5⟩
          clear hown5 hgrow5 hown hB5 hbel
          go_wp2_with fail
          go_roundw
          case rel => exact HR.out
          case measure => simp [intOf] <;> omega
        · have j8 : ¬ (8 : Int) ≤ (p : Int) := by omega
          have HR : Hid (PutU b w u3 (.int .u64 (H' : Int)) (.int .i64 (p : Int)) (.int .i64 ((k : Int) + 1)) wr) := ⟨k + 1, H', O, P, p, h, by go_num, rfl, hHlt, rfl, by omega, HP, HH, hown, HO, hbel⟩
          clear hown hbel HO HH HP
          go_wp2_with fail
          go_roundw
          case rel => exact HR.out
          case measure => simp [intOf] <;> omega
    · have ek : k = b.length := by omega
      subst ek
      have HOE : Hid (O ++ stuffL (P ++ []) = putSt b) := by
        have := HO.out
        rwa [List.drop_of_length_le (Nat.le_refl _)] at this
      clear HO
      by_cases hp0 : 0 < p
      · have k2 : (0 : Int) < (p : Int) := by omega
        have k3 : IntKind.i64.wrap (8 - (p : Int)) = ((8 - p : Nat) : Int) := by rw [IntKind.wrap_i64]; omega
        have k4 : (0 : Int) ≤ 8 - (p : Int) := by omega
        have hl0 := HH.out.last (by rw [HP.out]; omega)
        rw [HP.out] at hl0
        obtain ⟨y2, hy2⟩ : ∃ y2, val8 (P ++ List.replicate (8 - p) true) = y2 := ⟨_, rfl⟩
        rw [hy2] at hl0
        have HE := Lib.hid (put_end y2 p HP.out hp0 hp (by rw [HP.out, hy2]) HOE.out)
        have HBD := Lib.hid (put_bound HOE.out hn)
        have HGA := Lib.hid fun W => group_any y2 W
        obtain ⟨a1, ha1⟩ : ∃ a, IntKind.u64.wrap ((H : Int) + 1) = a := ⟨_, rfl⟩
        obtain ⟨a2, ha2⟩ : ∃ a, IntKind.u64.wrap (a1 * 2 ^ (8 - p)) = a := ⟨_, rfl⟩
        obtain ⟨a3, ha3⟩ : ∃ a, IntKind.u64.wrap (a2 - 1) = a := ⟨_, rfl⟩
        have hv := held_last H p hp _ hl0 a1 a2 a3 ha1.symm ha2.symm ha3.symm
        clear hl0 hy2 HOE HH HP
        go_wp2_with fail
        rw [hv]
        clear hv ha1 ha2 ha3
        refine (HGA.out _).mono ?_
        rintro e w1 ⟨rfl, rfl⟩
        generalize gz y2 = z at HE HGA ⊢
        generalize gt y2 = q at HGA ⊢
        have hsz := hbel.size
        have hb1 := HBD.out
        clear HGA HBD
        go_wp2_with (at_builtin; refine wpList_append_own _ rfl _ _ 22 rfl w.heap.size 5 i0 (.int .u8 0) 1 1 Tryz.underlying22 hi hz0 hz1 hz2 rfl (by decide) _ _ _ rfl (hown.alloc _) ⟨wr.heap.size, 0, none⟩ 1 1 [.int .u8 (z.toNat : Int)] rfl rfl (cell_one_new _ _ _) (by intro u hu; simp at hu; subst hu; rfl) (by unfold maxLen; omega) (by omega) (by simp; omega) ?_; intro v5 w5 hown5 hgrow5 _)
        have hB5 : Below w.heap.size w w5 := (hbel.alloc hbel.size _).grown hgrow5 (by simp; omega) (fun g hk => (hown.lt g hk).1)
        have HR : Hid (RetY w (putSt b) (.returned v5) w5) := RetY.own (n := O.length + 1) (by rw [← HE.out, List.length_append]; rfl) (by rw [← HE.out, List.map_append]; exact hown5) hB5
        clear hown5 hgrow5 hown hB5 hbel
        go_wp2_with fail
        go_ret
        exact HR.out
      · have k2 : ¬ (0 : Int) < (p : Int) := by omega
        have ep : p = 0 := by omega
        subst ep
        have e0 : P = [] := List.eq_nil_of_length_eq_zero HP.out
        subst e0
        have HE : Hid (O = putSt b) := by
          have := HOE.out
          rwa [List.append_nil, stuff_nil, List.append_nil] at this
        clear HOE
        go_wp2_with fail
        go_ret
        rw [← HE.out]
        exact RetY.own rfl hown hbel
/-! ### Get -/
def GetU (s : List UInt8) (w : World) (v h l i : Value) (wr : World) : Prop :=
  ∃ (k H : Nat) (O : List UInt8) (P : List Bool) (p : Nat), k ≤ s.length ∧ i = .int .i64 (k : Int) ∧ h = .int .u64 (H : Int) ∧ H < 18446744073709551616 ∧ l = .int .i64 (p : Int) ∧ p ≤ 7 ∧ Hid (P.length = p) ∧ Hid (Holds H P) ∧ wr.ownsRow w.heap.size 5 1 v O.length (O.map vB) ∧ Hid (O ++ cut8 (P ++ rawL (s.drop k)) = candL s) ∧ Below w.heap.size w wr
theorem held_seven (H c : Nat) (hc : c < 128) : bits .or .u64 (IntKind.u64.wrap ((H : Int) * 128)) (c : Int) = (((H * 128 + c) % 18446744073709551616 : Nat) : Int) := by
  have e : IntKind.u64.wrap ((H : Int) * 128) = ((2 ^ 7 * (H % 144115188075855872) : Nat) : Int) := by
    rw [IntKind.wrap_u64]
    omega
  rw [e, u64_or_nat _ _ (by omega) (by omega), ← Nat.two_pow_add_eq_or_of_lt (by omega)]
  congr 1
  omega
theorem seven_table : ∀ n, n < 256 → numB ((bits8 (UInt8.ofNat n)).take 7) = n / 2 := by decide +kernel
theorem seven_num (y : UInt8) : numB ((bits8 y).take 7) = y.toNat / 2 := by
  have := seven_table y.toNat y.toNat_lt
  rwa [UInt8.ofNat_toNat] at this
theorem get_round {O : List UInt8} {P R : List Bool} {T : List UInt8} (p : Nat) (hp : P.length = p) (h8 : 8 ≤ p) (h : O ++ cut8 (P ++ R) = T) :
    (O ++ [val8 (P.take 8)]) ++ cut8 (P.drop 8 ++ R) = T ∧ (P.drop 8).length = p - 8 := by
  refine ⟨?_, by rw [List.length_drop, hp]⟩
  rw [← h, cut_next (P ++ R) (by rw [List.length_append]; omega), List.take_append_of_le_length (by omega), List.drop_append_of_le_length (by omega), List.append_assoc]
  rfl
theorem get_bound {O : List UInt8} {L : List Bool} {s : List UInt8} (h : O ++ cut8 L = candL s) : O.length ≤ s.length := by
  have h1 := congrArg List.length h
  rw [List.length_append] at h1
  have h2 := cut_length _ (rawL s) (Nat.le_refl _)
  have h3 := raw_length_le s
  unfold candL at h1
  omega
set_option maxHeartbeats 4000000 in
theorem getF_any (s : List UInt8) (n : Nat) (A : Option Addr) (c : Nat) (w : World) (HN : Hid (s.length = n)) (hr : Rd vB w A s) (hc : n ≤ c) (hn : n ≤ 10000) :
    Calls Tryz.prog 76 #[.slice A n c] w (RetF w (if putSt (candL s) = s then candL s else []) (if putSt (candL s) = s then 0 else 3)) := by
  obtain ⟨i0, hi, hz0, hz1, hz2⟩ := info_parts info_u8
  have e1 := HN.out
  subst e1
  obtain ⟨LG, hLG⟩ : ∃ L, (if putSt (candL s) = s then candL s else []) = L := ⟨_, rfl⟩
  obtain ⟨kg, hkg⟩ : ∃ k : Int, (if putSt (candL s) = s then 0 else 3) = k := ⟨_, rfl⟩
  rw [hLG, hkg]
  have HLG := Lib.hid hLG
  have HKG := Lib.hid hkg
  clear hLG hkg
  go_enter Tryz.func76, Tryz.ntmps76
  go_wp2_with fail
  go_loopw [4, 5, 6, 12] (fun v h l i wr => GetU s w v h l i wr) (fun _ _ _ i _ => s.length - (intOf i).toNat)
  case atStart => exact ⟨0, 0, [], [], 0, Nat.zero_le _, rfl, rfl, by omega, rfl, by omega, rfl, Holds.nil 0, World.ownsRow_nil _ _ _ _, rfl, Below.refl _ _⟩
  case round =>
    obtain ⟨k, H, O, P, p, hk, rfl, rfl, hH, rfl, hp, HP, HH, hown, HO, hbel⟩ := hrel
    by_cases h : k < s.length
    · obtain ⟨g, o, rfl, hg, hcell⟩ := hr.at h
      have hc0 := (hbel.cell (p := ⟨g, o + k, none⟩) hg).trans (hcell k h)
      have HDR : Hid (s.drop k = s[k] :: s.drop (k + 1)) := List.drop_eq_getElem_cons h
      generalize s[k] = y at hc0 HDR
      have hy := y.toNat_lt
      have k1 : (k : Int) < (s.length : Int) := by omega
      have k0 : (0 : Int) ≤ (k : Int) := by omega
      have HA := Lib.hid (alike_any y wr)
      have hraw := (g_table y.toNat hy).2.2
      rw [UInt8.ofNat_toNat] at hraw
      obtain ⟨b, hb⟩ : ∃ b, alikeT y = b := ⟨_, rfl⟩
      rw [hb] at HA hraw
      clear hb hcell
      have HO1 : Hid (O ++ cut8 ((P ++ rawG y) ++ rawL (s.drop (k + 1))) = candL s) := by
        have := HO.out
        rw [HDR.out] at this
        rw [List.append_assoc]
        exact this
      clear HO HDR
      unfold vB at hc0
      cases b
      · have hraw2 : rawG y = bits8 y := hraw
        rw [hraw2] at HO1
        have HM : Hid (Holds ((H * 256 + y.toNat) % 18446744073709551616) (P ++ bits8 y)) := by
          have := Holds.more HH.out (bits8 y) (by rw [HP.out]; show p + 8 ≤ 64; omega)
          rw [bits_num] at this
          exact this
        have hmo := held_more H y.toNat hy
        generalize y.toNat = m at hy hc0 HM hmo HA
        obtain ⟨H', hH'⟩ : ∃ H', (H * 256 + m) % 18446744073709551616 = H' := ⟨_, rfl⟩
        have hHlt : H' < 18446744073709551616 := by omega
        rw [hH'] at HM hmo
        have HP' : Hid ((P ++ bits8 y).length = p + 8) := by unfold Hid; rw [List.length_append, HP.out]; rfl
        clear hH' HH HP hraw hraw2
        generalize P ++ bits8 y = P' at HM HO1 HP'
        obtain ⟨r1, r4⟩ := get_round (p + 8) HP'.out (by omega) HO1.out
        have hv0 := HM.out.top (by rw [HP'.out]; omega)
        have hrest := HM.out.rest 8
        rw [HP'.out, show p + 8 - 8 = p by omega] at hv0
        rw [show p + 8 - 8 = p by omega] at r4
        generalize val8 (P'.take 8) = z at hv0 r1
        have hv : (H' : Int) / 2 ^ p % 256 = (z.toNat : Int) := by rw [← hv0, Int.natCast_emod, Int.natCast_ediv, Int.natCast_pow]; rfl
        have HBD := Lib.hid (get_bound HO1.out)
        have HR1 := Lib.hid r1
        have HR4 := Lib.hid r4
        have HRS := Lib.hid hrest
        clear hv0 r1 r4 hrest HO1 HM HP'
        generalize P'.drop 8 = P'' at HR1 HR4 HRS
        have hb1 := HBD.out
        have hsz := hbel.size
        clear HBD
        go_wp2_with fail
        refine HA.out.mono ?_
        rintro e w1 ⟨rfl, rfl⟩
        have j8 : (8 : Int) ≤ (p : Int) + 8 := by omega
        go_wp2_with (at_builtin; refine wpList_append_own _ rfl _ _ 22 rfl w.heap.size 5 i0 (.int .u8 0) 1 1 Tryz.underlying22 hi hz0 hz1 hz2 rfl (by decide) _ _ _ rfl (hown.alloc _) ⟨wr.heap.size, 0, none⟩ 1 1 [.int .u8 (z.toNat : Int)] rfl rfl (cell_one_new _ _ _) (by intro u hu; simp at hu; subst hu; rfl) (by unfold maxLen; omega) (by omega) (by simp; omega) ?_; intro v5 w5 hown5 hgrow5 _)
        have hB5 : Below w.heap.size w w5 := (hbel.alloc hbel.size _).grown hgrow5 (by simp; omega) (fun g hk => (hown.lt g hk).1)
        have HR : Hid (GetU s w v5 (.int .u64 (H' : Int)) (.int .i64 (p : Int)) (.int .i64 ((k : Int) + 1)) w5) := ⟨k + 1, H', O ++ [z], P'', p, h, by go_num, rfl, hHlt, rfl, hp, HR4, HRS, by rw [List.length_append, List.map_append]; exact hown5, HR1, hB5⟩
        clear hown5 hgrow5 hown hB5 hbel
        go_wp2_with fail
        go_roundw
        case rel => exact HR.out
        case measure => simp [intOf] <;> omega
      · have hraw2 : rawG y = (bits8 y).take 7 := hraw
        rw [hraw2] at HO1
        have h7l : ((bits8 y).take 7).length = 7 := rfl
        have HM : Hid (Holds ((H * 128 + y.toNat / 2) % 18446744073709551616) (P ++ (bits8 y).take 7)) := by
          have := Holds.more HH.out ((bits8 y).take 7) (by rw [HP.out, h7l]; omega)
          rw [seven_num, h7l] at this
          exact this
        have hmo := held_seven H (y.toNat / 2) (by omega)
        generalize y.toNat = m at hy hc0 HM hmo HA
        obtain ⟨m2, hm2⟩ : ∃ m2, m / 2 = m2 := ⟨_, rfl⟩
        have e1 : (m : Int) / 2 = (m2 : Int) := by omega
        have e2 : (m2 : Int) % 256 = (m2 : Int) := by omega
        have e3 : IntKind.u8.wrap (m2 : Int) = (m2 : Int) := by rw [IntKind.wrap_u8']; omega
        rw [hm2] at HM hmo
        obtain ⟨H', hH'⟩ : ∃ H', (H * 128 + m2) % 18446744073709551616 = H' := ⟨_, rfl⟩
        have hHlt : H' < 18446744073709551616 := by omega
        rw [hH'] at HM hmo
        have HP' : Hid ((P ++ (bits8 y).take 7).length = p + 7) := by unfold Hid; rw [List.length_append, HP.out]; rfl
        clear hH' HH HP hraw hraw2 hm2
        generalize P ++ (bits8 y).take 7 = P' at HM HO1 HP'
        by_cases h0 : 1 ≤ p
        · obtain ⟨q, rfl⟩ : ∃ q, p = q + 1 := ⟨p - 1, by omega⟩
          obtain ⟨r1, r4⟩ := get_round (q + 1 + 7) HP'.out (by omega) HO1.out
          have hv0 := HM.out.top (by rw [HP'.out]; omega)
          have hrest := HM.out.rest 8
          rw [HP'.out, show q + 1 + 7 - 8 = q by omega] at hv0
          rw [show q + 1 + 7 - 8 = q by omega] at r4
          generalize val8 (P'.take 8) = z at hv0 r1
          have hv : (H' : Int) / 2 ^ q % 256 = (z.toNat : Int) := by rw [← hv0, Int.natCast_emod, Int.natCast_ediv, Int.natCast_pow]; rfl
          have HBD := Lib.hid (get_bound HO1.out)
          have HR1 := Lib.hid r1
          have HR4 := Lib.hid r4
          have HRS := Lib.hid hrest
          clear hv0 r1 r4 hrest HO1 HM HP'
          generalize P'.drop 8 = P'' at HR1 HR4 HRS
          have hb1 := HBD.out
          have hsz := hbel.size
          clear HBD
          obtain ⟨p, hpq⟩ : ∃ p : Int, (q : Int) + 1 = p := ⟨_, rfl⟩
          have ep : ((q + 1 : Nat) : Int) = p := by omega
          rw [ep]
          have j1 : p + 7 - 8 = (q : Int) := by omega
          have j2 : IntKind.i64.wrap (p + 7) = p + 7 := by rw [IntKind.wrap_i64]; omega
          have j3 : IntKind.i64.wrap (q : Int) = (q : Int) := by rw [IntKind.wrap_i64]; omega
          have j8 : (8 : Int) ≤ p + 7 := by omega
          clear ep hpq
          go_wp2_with fail
          refine HA.out.mono ?_
          rintro e w1 ⟨rfl, rfl⟩
          go_wp2_with (at_builtin; refine wpList_append_own _ rfl _ _ 22 rfl w.heap.size 5 i0 (.int .u8 0) 1 1 Tryz.underlying22 hi hz0 hz1 hz2 rfl (by decide) _ _ _ rfl (hown.alloc _) ⟨wr.heap.size, 0, none⟩ 1 1 [.int .u8 (z.toNat : Int)] rfl rfl (cell_one_new _ _ _) (by intro u hu; simp at hu; subst hu; rfl) (by unfold maxLen; omega) (by omega) (by simp; omega) ?_; intro v5 w5 hown5 hgrow5 _)
          have hB5 : Below w.heap.size w w5 := (hbel.alloc hbel.size _).grown hgrow5 (by simp; omega) (fun g hk => (hown.lt g hk).1)
          have HR : Hid (GetU s w v5 (.int .u64 (H' : Int)) (.int .i64 (q : Int)) (.int .i64 ((k : Int) + 1)) w5) := ⟨k + 1, H', O ++ [z], P'', q, h, by go_num, rfl, hHlt, rfl, by omega, HR4, HRS, by rw [List.length_append, List.map_append]; exact hown5, HR1, hB5⟩
          clear hown5 hgrow5 hown hB5 hbel
          go_wp2_with fail
          go_roundw
          case rel => exact HR.out
          case measure => simp [intOf] <;> omega
        · have ep : p = 0 := by omega
          subst ep
          have HR : Hid (GetU s w u4 (.int .u64 (H' : Int)) (.int .i64 7) (.int .i64 ((k : Int) + 1)) wr) := ⟨k + 1, H', O, P', 7, h, by go_num, rfl, hHlt, rfl, by omega, HP', HM, hown, HO1, hbel⟩
          clear hown hbel HO1 HM HP'
          go_wp2_with fail
          refine HA.out.mono ?_
          rintro e w1 ⟨rfl, rfl⟩
          go_wp2_with fail
          go_roundw
          case rel => exact HR.out
          case measure => simp [intOf] <;> omega
    · have ek : k = s.length := by omega
      subst ek
      have HE : Hid (O = candL s) := by
        have := HO.out
        rw [List.drop_of_length_le (Nat.le_refl _)] at this
        rw [← this]
        show O = O ++ cut8 (P ++ [])
        rw [List.append_nil, cut_short P (by rw [HP.out]; omega), List.append_nil]
      have hb1 : O.length ≤ s.length := get_bound HO.out
      clear HO HP HH
      obtain ⟨A1, c1, rfl, hc1⟩ := own_form hown
      have hr1 := Rd.own hown
      rw [← HE.out] at HLG HKG
      clear HE
      have HB := Lib.hid hbel
      clear hown hbel
      have k1 : ¬ (s.length : Int) < (s.length : Int) := by omega
      go_wp2_with fail
      refine (putF_any O O.length A1 c1 _ (Lib.hid rfl) hr1 hc1 (by omega)).mono ?_
      rintro e w2 ⟨A2, n2, c2, rfl, HN2, hc2, hr2, hb2⟩
      have hr3 := hr1.keep hb2
      have hs2 := (hr.keep HB.out).keep hb2
      have HB2 := Lib.hid (below_step HB.out hb2)
      have HEQ := Lib.hid (equal_any (putSt O) s n2 s.length A2 A c2 c w2 HN2 (Lib.hid rfl) hr2 hs2)
      clear hr2 hs2 hb2 hr1 HB
      go_wp2_with fail
      refine HEQ.out.mono ?_
      rintro e w3 ⟨rfl, rfl⟩
      by_cases hq : putSt O = s
      · have hd : decide (putSt O = s) = true := decide_eq_true hq
        have HL : Hid (LG = O) := by unfold Hid; rw [← HLG.out, if_pos hq]
        have HK : Hid (kg = 0) := by unfold Hid; rw [← HKG.out, if_pos hq]
        have hk := HK.out
        subst hk
        have hl := HL.out
        subst hl
        rw [hd]
        clear HLG HKG hq hd HEQ
        go_wp2_with fail
        go_ret2
        exact ⟨A1, _, c1, rfl, Lib.hid rfl, hc1, hr3, HB2.out⟩
      · have hd : decide (putSt O = s) = false := decide_eq_false hq
        have HL : Hid (LG = []) := by unfold Hid; rw [← HLG.out, if_neg hq]
        have HK : Hid (kg = 3) := by unfold Hid; rw [← HKG.out, if_neg hq]
        have hk := HK.out
        subst hk
        have hl := HL.out
        subst hl
        rw [hd]
        clear HLG HKG hq hd HEQ
        go_wp2_with fail
        go_ret2
        exact ⟨none, 0, 0, rfl, Lib.hid rfl, Nat.le_refl _, Rd.nil, HB2.out⟩
theorem getF_ok (s : List UInt8) (n : Nat) (A : Option Addr) (c : Nat) (w : World) (HN : Hid (s.length = n)) (hr : Rd vB w A s) (hc : n ≤ c) (hn : n ≤ 10000) (H : Hid (putSt (candL s) = s)) :
    Calls Tryz.prog 76 #[.slice A n c] w (RetF w (candL s) 0) := by
  have h := getF_any s n A c w HN hr hc hn
  rwa [if_pos H.out, if_pos H.out] at h
theorem getF_no (s : List UInt8) (n : Nat) (A : Option Addr) (c : Nat) (w : World) (HN : Hid (s.length = n)) (hr : Rd vB w A s) (hc : n ≤ c) (hn : n ≤ 10000) (H : Hid (putSt (candL s) ≠ s)) :
    Calls Tryz.prog 76 #[.slice A n c] w (RetF w [] 3) := by
  have h := getF_any s n A c w HN hr hc hn
  rwa [if_neg H.out, if_neg H.out] at h
end Go.Proofs.YteppocjgodmpdaaGreatDoor
/-
  What the reference's call Put of layer 9 answers: checks by a register, which is set place by place. No conditions but those typed.
-/
namespace Go.Proofs.YteppocjgodmpdaaGreatDoor
set_option maxRecDepth 100000
open Go.RowKit
set_option linter.unusedSimpArgs false
set_option linter.unusedVariables false

/-! ### The register, place by place -/
theorem co_zip (a b : List UInt8) (i : Nat) (ha : i < a.length) (hb : i < b.length) : co (List.zipWith addB a b) i = addB (co a i) (co b i) := by
  rw [co_lt _ _ (by rw [List.length_zipWith]; omega), co_lt _ _ ha, co_lt _ _ hb, List.getElem_zipWith]
theorem co_take (l : List UInt8) (n i : Nat) (h : i < n) : co (l.take n) i = co l i := by
  unfold co
  rw [List.getD_eq_getElem?_getD, List.getD_eq_getElem?_getD, List.getElem?_take, if_pos h]
theorem co_map_mul (t : UInt8) (l : List UInt8) (i : Nat) : co (l.map (mulB t)) i = mulB t (co l i) := co_scale t l i
theorem reg_get (g reg : List UInt8) (top : UInt8) (i : Nat) (hi : i + 1 < reg.length) (hg : reg.length ≤ g.length) : co (regL g reg top) (i + 1) = addB (co reg i) (mulB top (co g (i + 1))) := by
  unfold regL
  rw [co_zip _ _ _ (by rw [List.length_cons, List.length_dropLast]; omega) (by rw [List.length_map, List.length_take]; omega), co_succ, co_map_mul, co_take _ _ _ hi, List.dropLast_eq_take, co_take _ _ _ (by omega)]
theorem reg_get0 (g reg : List UInt8) (top : UInt8) (hi : 0 < reg.length) (hg : reg.length ≤ g.length) : co (regL g reg top) 0 = mulB top (co g 0) := by
  unfold regL
  rw [co_zip _ _ _ (by rw [List.length_cons]; omega) (by rw [List.length_map, List.length_take]; omega), co_zero, zero_add, co_map_mul, co_take _ _ _ hi]
def mixL (L R : List UInt8) (k : Nat) : List UInt8 := L.take k ++ R.drop k
theorem mix_length (L R : List UInt8) (k : Nat) (h : L.length = R.length) : (mixL L R k).length = L.length := by
  unfold mixL
  rw [List.length_append, List.length_take, List.length_drop]
  omega
theorem mix_low (L R : List UInt8) (k i : Nat) (hi : i < k) (hk : k ≤ L.length) : co (mixL L R k) i = co L i := by
  unfold mixL co
  rw [List.getD_eq_getElem?_getD, List.getD_eq_getElem?_getD, List.getElem?_append_left (by rw [List.length_take]; omega), List.getElem?_take, if_pos hi]
theorem mix_set (L R : List UInt8) (k : Nat) (h : L.length = R.length) (hk : k < L.length) : (mixL L R (k + 1)).set k (co R k) = mixL L R k := by
  unfold mixL
  have e : L.take (k + 1) = L.take k ++ [L[k]] := List.take_succ_eq_append_getElem hk
  have e2 : R.drop k = R[k]'(by omega) :: R.drop (k + 1) := List.drop_eq_getElem_cons (by omega)
  have hl : (L.take k).length = k := by rw [List.length_take]; omega
  rw [e, e2, List.append_assoc, List.set_append_right _ _ (by omega), hl, Nat.sub_self, co_lt R k (by omega)]
  rfl
theorem mix_all (L R : List UInt8) (h : L.length = R.length) : mixL L R L.length = L := by
  unfold mixL
  rw [List.take_length, List.drop_of_length_le (by omega), List.append_nil]
theorem mix_none (L R : List UInt8) : mixL L R 0 = R := rfl

def InnR (L R : List UInt8) (gr : Nat) (wb : World) (kv : Value) (wx : World) : Prop :=
  ∃ k : Nat, k + 1 ≤ L.length ∧ kv = .int .i64 (k : Int) ∧ Cel wx gr 5 (mixL L R (k + 1)) ∧ Below wb.heap.size wb wx
def PutR (d G : List UInt8) (n gr : Nat) (wb : World) (iv : Value) (wr : World) : Prop :=
  ∃ j : Nat, j ≤ d.length ∧ iv = .int .i64 (j : Int) ∧ Cel wr gr 5 (runL G n (d.take j)) ∧ Below wb.heap.size wb wr
def twoC (p q : Addr) (a b : Value) (W : World) : Prop := W.cell? p = some a ∧ W.cell? q = some b
theorem run_take (G d : List UInt8) (n j : Nat) (h : j < d.length) : runL G n (d.take (j + 1)) = regL G (runL G n (d.take j)) (xorB (co d j) (co (runL G n (d.take j)) (n - 1))) := by
  rw [List.take_succ_eq_append_getElem h, run_snoc, co_lt d j h]
  rfl

set_option maxHeartbeats 4000000 in
theorem refputS_any (d : List UInt8) (len n : Nat) (A : Option Addr) (c : Nat) (w : World) (HN : Hid (d.length = len)) (hr : Rd vB w A d) (h1 : 1 ≤ n) (h2 : n ≤ 64) (hl : len ≤ 100000) :
    Calls Tryz.prog 72 #[.slice A len c, .int .i64 (n : Int)] w (RetQ w (putS d n)) := by
  obtain ⟨i0, hi, hz0, hz1, hz2⟩ := info_parts info_u8
  have e1 := HN.out
  subst e1
  go_enter Tryz.func72, Tryz.ntmps72
  go_wp2_with fail
  refine (refgen_any n _ h2).mono ?_
  rintro e w1 ⟨AG, ng, cg, rfl, HG, hcg, hrg, hb1⟩
  have HPS : Hid (putS d n = d ++ (runL (genL n) n d).reverse) := rfl
  have hng : ng = n + 1 := by rw [← HG.out, (gen_is n).1]
  generalize genL n = G at HG hrg HPS
  subst hng
  replace hr := hr.keep hb1
  have HB1 := Lib.hid hb1
  clear hb1
  go_wp2_with (at_make; refine wpList_make_full _ rfl _ _ 22 rfl w1.heap.size 5 i0 (.int .u8 0) 1 Tryz.underlying22 hi hz0 hz1 .i64 .i64 _ _ n rfl rfl rfl rfl (by rw [hz2]; omega) (by unfold maxLen; omega) (Nat.le_refl _) ?_; intro w0 hown0 hgrow0)
  have hown1 : w0.ownsRow w1.heap.size 5 1 (.slice (some ⟨w1.heap.size, 0, none⟩) n n) n ((List.replicate n (0 : UInt8)).map vB) := by
    have e0 : (List.replicate n (Value.int .u8 0)) = (List.replicate n (0 : UInt8)).map vB := by
      rw [List.map_replicate]
      rfl
    rw [← e0]
    have := hown0
    rw [Nat.mul_one] at this
    have e : (Value.int .u8 0).cells = #[.int .u8 0] := rfl
    rw [e, toList_madeCells_one] at this
    exact this
  obtain ⟨g1, hg1, _, hcel0⟩ := cel_of_own hown1 List.length_replicate (by omega)
  have eg : w1.heap.size = g1 := by injection hg1 with hg1; injection hg1
  have hB0 : Below w1.heap.size w1 w0 := (Below.refl _ _).grown hgrow0 (Nat.le_refl _) (by simp)
  have hgr : w1.heap.size ≤ g1 := by omega
  rw [eg]
  clear hown0 hgrow0 hown1 hg1 eg
  have hGl : ∀ e : List UInt8, (runL G n e).length = n := fun e => run_length G n h1 (by rw [HG.out]; omega) e
  have HGL := Lib.hid hGl
  clear hGl
  obtain ⟨bG, oG, rfl, hbG, hcG⟩ := hrg.at (show 0 < G.length by rw [HG.out]; omega)
  have hcG' : ∀ i, i < n + 1 → w1.cell? ⟨bG, oG + i, none⟩ = some (.int .u8 ((co G i).toNat : Int)) := fun i hi => by
    have hi' : i < G.length := by rw [HG.out]; exact hi
    rw [co_lt G i hi']
    exact hcG i hi'
  have HCG := Lib.hid hcG'
  clear hcG hcG' hrg
  go_loopw [7] (fun i wr => PutR d G n g1 w1 i wr) (fun i _ => d.length - (intOf i).toNat)
  case atStart => exact ⟨0, Nat.zero_le _, rfl, hcel0, hB0⟩
  case round =>
    clear hcel0 hB0
    obtain ⟨j, hj, rfl, hcel, hB⟩ := hrel
    by_cases h : j < d.length
    · have HRN := Lib.hid (run_take G d n j h)
      have hLl := HGL.out (d.take j)
      generalize runL G n (d.take j) = L at HRN hLl hcel
      obtain ⟨b, o, rfl, hb, hcell⟩ := hr.at h
      have hc0 : wr.cell? ⟨b, o + j, none⟩ = some (.int .u8 ((co d j).toNat : Int)) := by rw [co_lt d j h]; exact (hB.cell (p := ⟨b, o + j, none⟩) hb).trans (hcell j h)
      have hc1 := hcel.get (n - 1) (by omega)
      have hx1 := u8_xor_b (co d j) (co L (n - 1))
      generalize co d j = x at hc0 hx1 HRN
      generalize co L (n - 1) = y at hc1 hx1 HRN
      generalize xorB x y = top at hx1 HRN
      obtain ⟨m, hm⟩ : ∃ m, n = m + 1 := ⟨n - 1, by omega⟩
      rw [show n - 1 = m by omega] at hc1
      have hnm : (n : Int) - 1 = (m : Int) := by omega
      have hmn : (m : Int) < (n : Int) := by omega
      have mw : IntKind.i64.wrap (m : Int) = (m : Int) := by rw [IntKind.wrap_i64]; omega
      have HMN := Lib.hid hm
      clear hm
      have j1 : (j : Int) < (d.length : Int) := by omega
      have j0 : (0 : Int) ≤ (j : Int) := by omega
      have m0 : (0 : Int) ≤ (m : Int) := by omega
      have HRL : Hid ((regL G L top).length = L.length) := reg_length G L top (by intro e; rw [e] at hLl; rw [List.length_nil] at hLl; omega) (by rw [HG.out]; omega)
      have HR0 : Hid (co (regL G L top) 0 = mulB top (co G 0)) := reg_get0 G L top (by omega) (by rw [HG.out]; omega)
      have HRI : Hid (∀ i, i + 1 < L.length → co (regL G L top) (i + 1) = xorB (co L i) (mulB top (co G (i + 1)))) := fun i hi => reg_get G L top i hi (by rw [HG.out]; omega)
      generalize regL G L top = R at HRN HRL HR0 HRI
      clear hcell
      go_wp2_with fail
      go_quiet (fail)
      have hBd : Below w1.heap.size w1 (wr.drewN nq) := below_drewN hB nq
      have hceld : Cel (wr.drewN nq) g1 5 L := hcel.later (below_drewN (Below.refl _ _) nq)
      clear hc0 hc1 hcel hB
      generalize wr.drewN nq = wq at hBd hceld ⊢
      go_wp2_with fail
      go_loopw [9] (fun k wx => InnR L R g1 w1 k wx) (fun k _ => (intOf k).toNat)
      case atStart => exact ⟨m, by have := HMN.out; omega, rfl, by rw [show m + 1 = L.length by have := HMN.out; omega, mix_all L R (by rw [HRL.out])]; exact hceld, hBd⟩
      case round =>
        clear hBd hceld
        obtain ⟨k, hk, rfl, hcel, hB⟩ := hrel
        have hlR := HRL.out
        by_cases hk0 : k = 0
        · subst hk0
          have hcs := hcel.set 0 (co R 0)
          rw [show (0 : Nat) + 1 = 0 + 1 from rfl, mix_set L R 0 (by omega) (by omega), mix_none] at hcs
          have hg0 : wr.cell? ⟨bG, oG, none⟩ = some (.int .u8 ((co G 0).toNat : Int)) := (hB.cell (p := ⟨bG, oG, none⟩) hbG).trans (HCG.out 0 (by omega))
          have hr0 := hcel.get 0 (by rw [mix_length _ _ _ hlR.symm]; omega)
          have hf0 := hcel.frozen 0
          have HR00 := Lib.hid (HR0.out)
          generalize co G 0 = y0 at hg0 HR00
          generalize co R 0 = z0 at hcs HR00
          generalize co (mixL L R (0 + 1)) 0 = q0 at hr0
          have HCS := Lib.hid hcs
          have HBs := Lib.hid (hB.setCell (p := ⟨g1, 0, none⟩) hgr (.int .u8 (z0.toNat : Int)))
          clear hcs hcel
          go_wp2_with fail
          refine (refmul_any top y0 _).mono ?_
          rintro e w' ⟨rfl, rfl⟩
          rw [← HR00.out]
          go_wp2_with fail
          go_roundw
          case rel => exact ⟨j + 1, h, by go_num, by rw [HRN.out]; exact HCS.out, HBs.out⟩
          case measure => simp [intOf] <;> omega
        · obtain ⟨q, hq⟩ : ∃ q, k = q + 1 := ⟨k - 1, by omega⟩
          have hkq : (k : Int) - 1 = (q : Int) := by omega
          have qw : IntKind.i64.wrap (q : Int) = (q : Int) := by rw [IntKind.wrap_i64]; omega
          have k0 : (0 : Int) < (k : Int) := by omega
          have k1 : (0 : Int) ≤ (k : Int) := by omega
          have kn : (k : Int) < (n : Int) := by omega
          have kn1 : (k : Int) < (n : Int) + 1 := by omega
          have q0 : (0 : Int) ≤ (q : Int) := by omega
          have qn : (q : Int) < (n : Int) := by omega
          have hgk : wr.cell? ⟨bG, oG + k, none⟩ = some (.int .u8 ((co G k).toNat : Int)) := (hB.cell (p := ⟨bG, oG + k, none⟩) hbG).trans (HCG.out k (by omega))
          have hrq := hcel.get q (by rw [mix_length _ _ _ hlR.symm]; omega)
          rw [mix_low L R (k + 1) q (by omega) (by omega)] at hrq
          have hrk := hcel.get k (by rw [mix_length _ _ _ hlR.symm]; omega)
          have hfk := hcel.frozen k
          have hcs := hcel.set k (co R k)
          rw [mix_set L R k (by omega) (by omega)] at hcs
          have hval : co R k = xorB (co L q) (mulB top (co G k)) := by rw [hq]; exact HRI.out q (by omega)
          generalize co R k = z at hcs hval
          generalize co (mixL L R (k + 1)) k = zz at hrk
          generalize co G k = yk at hgk hval
          generalize co L q = xq at hrq hval
          have hxr := u8_xor_b xq (mulB top yk)
          rw [← hval] at hxr
          have HREL : Hid (InnR L R g1 w1 (.int .i64 (q : Int)) (wr.drew.setCell ⟨g1, k, none⟩ (.int .u8 (z.toNat : Int)))) :=
            ⟨q, by omega, rfl, by rw [← hq]; exact hcs.drew, (hB.drew).setCell (p := ⟨g1, k, none⟩) hgr _⟩
          have HZ := Lib.hid hq
          clear hcs hcel hB hq hval
          go_wp2_with fail
          have hS : twoC ⟨g1, q, none⟩ ⟨bG, oG + k, none⟩ (.int .u8 (xq.toNat : Int)) (.int .u8 (yk.toNat : Int)) wr.drew := ⟨hrq, hgk⟩
          have hrk' : wr.drew.cell? ⟨g1, k, none⟩ = some (.int .u8 (zz.toNat : Int)) := hrk
          have hfk' : wr.drew.frozen? ⟨g1, k, none⟩ = false := hfk
          refine wp_region_plan_of (twoC ⟨g1, q, none⟩ ⟨bG, oG + k, none⟩ (.int .u8 (xq.toNat : Int)) (.int .u8 (yk.toNat : Int))) (.step 0 false (.step 1 false (.step 2 false (.step 3 false (.step 4 false (.step 5 false (.step 6 false (.step 7 false (.step 8 false (.step 9 false (.step 10 false (.step 11 false (.step 12 true (.step 13 false (.step 14 false (.step 15 true (.nil))))))))))))))))) hS (by kernel_rfl) (by kernel_rfl) (by rfl) (by kernel_rfl) ?_
          clear hrk hfk hrq hgk
          generalize wr.drew = wv at *
          iterate 12 (refine plan_read rfl (by rfl) (v := ?_) ?_ ?_; rotate_left 1; (intro W hW; (try dsimp only at hW); obtain ⟨hW0, hW1⟩ := hW; go_simp <;> with_reducible rfl); simp only [List.getElem_toArray, List.getElem_cons_zero, List.getElem_cons_succ, Act.put, List.setIfInBounds_toArray, List.set_cons_zero, List.set_cons_succ])
          (refine plan_make_of rfl (by rfl) (fun K hK => ?_); go_simp; (refine (refmul_any top yk _).mono ?_; rintro e w' ⟨rfl, rfl⟩); refine hK.out _ _ hS ?_; clear hK K)
          iterate 2 (refine plan_read rfl (by rfl) (v := ?_) ?_ ?_; rotate_left 1; (intro W hW; (try dsimp only at hW); obtain ⟨hW0, hW1⟩ := hW; go_simp <;> with_reducible rfl); simp only [List.getElem_toArray, List.getElem_cons_zero, List.getElem_cons_succ, Act.put, List.setIfInBounds_toArray, List.set_cons_zero, List.set_cons_succ])
          refine plan_make_of rfl (by rfl) (fun K hK => ?_)
          go_simp
          refine hK.out _ _ ⟨(World.cell?_setCell_other _ _ _ _ (by intro e; injection e with _ e2; omega)).trans hS.1, (World.cell?_setCell_other _ _ _ _ (by intro e; injection e with e1; omega)).trans hS.2⟩ ?_
          clear hK K
          refine plan_done ?_
          clear hS hrk' hfk' hxr
          go_wp2_with fail
          go_roundw
          case rel => exact HREL.out
          case measure => simp [intOf] <;> omega
    · have ej : j = d.length := by omega
      subst ej
      rw [List.take_length] at hcel
      have HLR := Lib.hid (HGL.out d)
      generalize runL G n d = R at hcel HLR HPS
      have hrR := hcel.rd
      have hb12 := HB1.out
      have hbw := below_step hb12 hB
      have hrd := hr.keep hB
      have j1 : ¬ (d.length : Int) < (d.length : Int) := by omega
      have hown0 : (wr.alloc (.cells #[] 5)).ownsRow wr.heap.size 5 1 (.slice (some ⟨wr.heap.size, 0, none⟩) 0 0) 0 [] := World.ownsRow_made wr #[] 0 (Nat.le_refl _) (by unfold maxLen; omega) rfl
      have hB0 := below_new (Below.refl _ wr) (.cells #[] 5)
      have hrd0 := hrd.keep hB0
      clear hcel hB hr hrd HGL HCG
      go_wp2_with (at_builtin; refine wpList_append_rd _ rfl (.tmp 58) (.tmp 59) 22 rfl wr.heap.size 5 i0 (.int .u8 0) 1 Tryz.underlying22 hi hz0 hz1 hz2 rfl _ _ _ rfl hown0 A d c rfl hrd0 vB_one (by unfold maxLen; omega) (by omega) (by simp) ?_; intro v1 w3 hown3 hgrow3)
      rw [Nat.zero_add, List.nil_append] at hown3
      have hb3 : Below wr.heap.size wr w3 := hB0.grown hgrow3 (by simp) (fun k hk => (hown0.lt k hk).1)
      have hrR3 := hrR.keep hb3
      clear hrR
      clear hgrow3 hown0 hB0 hrd0
      refine (refturned_any R n _ n _ HLR hrR3 (by omega)).mono ?_
      rintro e w4 ⟨A4, n4, c4, rfl, HN4, hc4, hr4, hb4⟩
      have HLR2 : Hid (R.reverse.length = n) := by unfold Hid; rw [List.length_reverse, HLR.out]
      generalize R.reverse = T at HN4 hr4 HPS HLR2
      have e4 := HN4.out
      subst e4
      have hown4 := ownsRow_later hown3 hb4
      have hb34 := below_step hb3 hb4
      have hsz4 := hb34.size
      have hszw := hbw.size
      clear hown3 hb3 hb4 hrR3
      go_wp2_with (at_builtin; refine wpList_append_rd _ rfl (.tmp 60) (.tmp 62) 22 rfl wr.heap.size 5 i0 (.int .u8 0) 1 Tryz.underlying22 hi hz0 hz1 hz2 rfl _ _ _ rfl hown4 A4 T c4 rfl hr4 vB_one (by have := HLR2.out; unfold maxLen; omega) (by have := HLR2.out; omega) (by omega) ?_; intro v5 w5 hown5 hgrow5)
      go_ret
      have hB5 : Below wr.heap.size wr w5 := hb34.grown hgrow5 (by omega) (fun k hk => (hown4.lt k hk).1)
      rw [← List.map_append, ← HPS.out] at hown5
      exact RetQ.own (by rw [HPS.out, List.length_append]) hown5 (below_step hbw hB5)
end Go.Proofs.YteppocjgodmpdaaGreatDoor
