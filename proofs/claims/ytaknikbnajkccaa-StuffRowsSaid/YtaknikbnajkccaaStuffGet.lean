/-
  What the reference's call Get of layer 11 answers. No conditions but those typed.
-/
import Derived.Test.YtaknikbnajkccaaStuffRef2
import Derived.Test.YtaknikbnajkccaaStr
import Derived.Deep.DeepCutAuto
namespace Go.Proofs.Ytaknikbnajkccaa
set_option maxRecDepth 100000
open Go.RowKit
set_option linter.unusedSimpArgs false
set_option linter.unusedVariables false

/-- A call that hands back a list of bytes and a bool. -/
def RetB (w : World) (l : List UInt8) (k : Bool) (e : Ending) (w' : World) : Prop := ∃ A n c, e = .returned (.tuple #[.slice A n c, .bool k]) ∧ Hid (l.length = n) ∧ n ≤ c ∧ Rd vB w' A l ∧ Below w.heap.size w w'
theorem strY (n : Nat) {w : World} {A : Option Addr} {l : List UInt8} {c : Nat} (H : Hid (l.length = n)) (h : Rd vB w A l) : ∀ W, Below w.heap.size w W → (convert 22 9 (.slice A n c)).run Try.prog W = .ok (.string (strL l)) W :=
  fun W hW => run_str W _ _ _ Try.underlying22 Try.underlying5 Try.underlying9 A l n c H.out (h.keep hW)
theorem bits_block : ∀ (b : List UInt8) (k : Nat) (h : k < b.length), ((bitsL b).drop (8 * k)).take 8 = bits8 b[k]
  | c :: b, 0, _ => rfl
  | c :: b, k + 1, h => by
    have e : bitsL (c :: b) = bits8 c ++ bitsL b := rfl
    have e8 : (bits8 c).length = 8 := rfl
    rw [e, show 8 * (k + 1) = 8 + 8 * k by omega, ← List.drop_drop, show (8 : Nat) = (bits8 c).length from rfl, List.drop_left]
    exact bits_block b k (by simpa using h)
theorem raw_snoc (b : List UInt8) (k : Nat) (h : k < b.length) : rawL (b.take (k + 1)) = rawL (b.take k) ++ rawG b[k] := by
  unfold rawL
  rw [List.take_succ_eq_append_getElem h, List.flatMap_append]
  simp
theorem raw_len (c : UInt8) : (rawG c).length ≤ 8 := by
  unfold rawG
  split
  · rw [List.length_take]; show min 7 8 ≤ 8; omega
  · exact Nat.le_refl 8
theorem raw_length_le : ∀ b : List UInt8, (rawL b).length ≤ 8 * b.length
  | [] => by simp [rawL]
  | c :: b => by
    have e : rawL (c :: b) = rawG c ++ rawL b := rfl
    rw [e, List.length_append, List.length_cons]
    have := raw_len c
    have := raw_length_le b
    omega
theorem cut_next : ∀ (l : List Bool), 7 < l.length → cut8 l = val8 (l.take 8) :: cut8 (l.drop 8)
  | a :: b :: c :: d :: e :: f :: g :: h :: t, _ => rfl
theorem cut_short : ∀ (l : List Bool), ¬ 7 < l.length → cut8 l = []
  | [], _ => rfl
  | [_], _ => rfl
  | [_, _], _ => rfl
  | [_, _, _], _ => rfl
  | [_, _, _, _], _ => rfl
  | [_, _, _, _, _], _ => rfl
  | [_, _, _, _, _, _], _ => rfl
  | [_, _, _, _, _, _, _], _ => rfl
  | _ :: _ :: _ :: _ :: _ :: _ :: _ :: _ :: _, h => by simp at h
theorem cut_length : ∀ (n : Nat) (l : List Bool), l.length ≤ n → 8 * (cut8 l).length ≤ l.length
  | 0, l, h => by
    have : l = [] := List.eq_nil_of_length_eq_zero (by omega)
    subst this
    exact Nat.le_refl _
  | n + 1, l, h => by
    by_cases h7 : 7 < l.length
    · rw [cut_next l h7, List.length_cons]
      have := cut_length n (l.drop 8) (by rw [List.length_drop]; omega)
      rw [List.length_drop] at this
      omega
    · rw [cut_short l h7]
      exact Nat.zero_le _
theorem cnt_bits (c : UInt8) : (cntT ((bits8 c).take 7) = 0 ↔ (bits8 c).take 7 = List.replicate 7 false) ∧ (cntT ((bits8 c).take 7) = 7 ↔ (bits8 c).take 7 = List.replicate 7 true) ∧ cntT ((bits8 c).take 7) ≤ 7 := cnt_seven _ _ _ _ _ _ _
def GetR (s : List UInt8) (w : World) (v i : Value) (wr : World) : Prop :=
  ∃ k : Nat, k ≤ s.length ∧ i = .int .i64 (k : Int) ∧ wr.ownsRow w.heap.size 5 1 v (oneL (rawL (s.take k))).length ((oneL (rawL (s.take k))).map vB) ∧ Below w.heap.size w wr
def CntR (B : List Bool) (s i : Value) : Prop := ∃ j : Nat, j ≤ 7 ∧ i = .int .i64 (j : Int) ∧ s = .int .i64 (cntT (B.take j) : Int)
def CutR (R : List Bool) (w : World) (v i : Value) (wr : World) : Prop :=
  ∃ (k : Nat) (O : List UInt8), i = .int .i64 (k : Int) ∧ k ≤ R.length + 8 ∧ wr.ownsRow w.heap.size 5 1 v O.length (O.map vB) ∧ Hid (O ++ cut8 (R.drop k) = cut8 R) ∧ Below w.heap.size w wr
theorem strs_beq (a b : List UInt8) : ((strL a).toList == (strL b).toList) = (a == b) := by rw [strL_toList, strL_toList]

set_option maxHeartbeats 4000000 in
theorem refgetT_any (s : List UInt8) (n : Nat) (A : Option Addr) (c : Nat) (w : World) (HN : Hid (s.length = n)) (hr : Rd vB w A s) (hc : n ≤ c) (hn : n ≤ 10000) :
    Calls Try.prog 8 #[.slice A n c] w (RetB w (if putT (candL s) = s then candL s else []) (decide (putT (candL s) = s))) := by
  obtain ⟨i0, hi, hz0, hz1, hz2⟩ := info_parts info_u8
  obtain ⟨LG, hLG⟩ : ∃ L, (if putT (candL s) = s then candL s else []) = L := ⟨_, rfl⟩
  obtain ⟨ok, hok⟩ : ∃ k, decide (putT (candL s) = s) = k := ⟨_, rfl⟩
  rw [hLG, hok]
  have HLG := Lib.hid hLG
  have HOK := Lib.hid hok
  clear hLG hok
  go_enter Try.func8, Try.ntmps8
  go_wp2_with fail
  refine (refbits_any s n A c _ HN hr (by omega)).mono ?_
  rintro e w1 ⟨A1, n1, c1, rfl, HN1, hc1, hr1, hb1⟩
  have HL1 : Hid (n1 = 8 * n) := by unfold Hid; rw [← HN1.out, one_length, bits_length, HN.out]
  replace hr := hr.keep hb1
  have HB1 := Lib.hid hb1
  clear hb1
  go_wp2_with fail
  go_loopw [5, 6] (fun v i wr => GetR s w1 v i wr) (fun _ i _ => n - (intOf i).toNat)
  case atStart => exact ⟨0, Nat.zero_le _, rfl, World.ownsRow_nil _ _ _ _, Below.refl _ _⟩
  case round =>
    obtain ⟨k, hk, rfl, hown, hbel⟩ := hrel
    by_cases h : k < n
    · have hks : k < s.length := by rw [HN.out]; exact h
      have h8 : 8 * k < (oneL (bitsL s)).length := by rw [HN1.out, HL1.out]; omega
      obtain ⟨ga, oa, rfl, hga, hca⟩ := hr1.at h8
      have hmid := (hr1.keep hbel).mid (8 * k) (8 * k + 8) c1 (by rw [HN1.out]; exact hc1)
      have hc8 : 8 * k + 8 ≤ c1 := by have := HL1.out; omega
      rw [if_neg (by omega), show 8 * k + 8 - 8 * k = 8 by omega] at hmid
      have e1 : (some (⟨ga, oa, none⟩ : Addr)).map (·.add (8 * k * 1)) = some ⟨ga, oa + 8 * k, none⟩ := by
        simp only [Option.map_some, Nat.mul_one, Addr.add]
        split <;> simp_all
      have e2 : ((oneL (bitsL s)).drop (8 * k)).take 8 = oneL (bits8 s[k]) := by
        unfold oneL
        rw [← List.map_drop, ← List.map_take, bits_block s k hks]
      rw [e1, e2] at hmid
      have HRS := Lib.hid (raw_snoc s k hks)
      generalize s[k] = y at hmid HRS
      have HRG : Hid (rawG y = if (bits8 y).take 7 = List.replicate 7 false ∨ (bits8 y).take 7 = List.replicate 7 true then (bits8 y).take 7 else bits8 y) := rfl
      have HCN := Lib.hid (cnt_bits y)
      have hBl : (bits8 y).length = 8 := rfl
      have hRl : (rawL (s.take k)).length ≤ 80000 := by
        have := raw_length_le (s.take k)
        rw [List.length_take] at this
        omega
      generalize rawL (s.take k) = P at HRS hown hRl
      generalize bits8 y = B at hmid HRG HCN hBl
      obtain ⟨j8, hj8⟩ : ∃ j8, j8 = 8 * k := ⟨_, rfl⟩
      have k8 : 8 * (k : Int) = (j8 : Int) := by omega
      have k80 : (0 : Int) ≤ (j8 : Int) := by omega
      have k8c : (j8 : Int) + 8 ≤ (c1 : Int) := by omega
      have k8n : ¬ c1 = j8 := by omega
      have k8w : IntKind.i64.wrap (j8 : Int) = (j8 : Int) := by rw [IntKind.wrap_i64]; omega
      have k1 : (k : Int) < (n : Int) := by omega
      have k88 : j8 + 8 - j8 = 8 := by omega
      have kc8 : 8 ≤ c1 - j8 := by omega
      have k71 : (7 : Int) ≤ ((c1 - j8 : Nat) : Int) := by omega
      rw [← hj8] at hmid
      clear e1 e2 hca h8 hj8 hc8
      go_wp2_with fail
      have hsz := hbel.size
      go_loopw [8, 9] (fun sum i wx => CntR B sum i ∧ wr = wx) (fun _ i _ => 7 - (intOf i).toNat)
      case atStart => exact ⟨⟨0, by omega, rfl, rfl⟩, rfl⟩
      case round =>
        obtain ⟨⟨j, hj, rfl, rfl⟩, rfl⟩ := hrel
        by_cases hj7 : j < 7
        · have hjB : j < B.length := by omega
          have hjo : j < (oneL B).length := by rw [one_length]; exact hjB
          obtain ⟨gx, ox, ex, hgx, hcx⟩ := hmid.at hjo
          injection ex with ex
          injection ex with ex1 ex2 _
          subst ex1 ex2
          have hc0 := hcx j hjo
          obtain ⟨q, hq⟩ : ∃ q, B[j] = q := ⟨_, rfl⟩
          have e : (oneL B)[j] = oneB q := by rw [← hq]; simp [oneL]
          rw [e] at hc0
          unfold vB at hc0
          have hct : cntT (B.take (j + 1)) = cntT (B.take j) + (oneB q).toNat := by rw [List.take_succ_eq_append_getElem hjB, hq, cnt_snoc]
          have hcl : cntT (B.take j) ≤ 7 := by
            unfold cntT
            refine Nat.le_trans (List.length_filter_le _ _) ?_
            rw [List.length_take]
            omega
          have hx2 : (oneB q).toNat ≤ 1 := by cases q <;> decide
          obtain ⟨x, hx⟩ : ∃ x, (oneB q).toNat = x := ⟨_, rfl⟩
          rw [hx] at hc0 hct hx2
          obtain ⟨C, hC⟩ : ∃ C, cntT (B.take j) = C := ⟨_, rfl⟩
          rw [hC] at hct hcl ⊢
          have hwx : IntKind.i64.wrap (x : Int) = (x : Int) := by rw [IntKind.wrap_i64]; omega
          have HR : Hid (CntR B (.int .i64 ((C : Int) + (x : Int))) (.int .i64 ((j : Int) + 1))) := ⟨j + 1, hj7, by go_num, by rw [hct]; congr 1⟩
          have j1 : (j : Int) < 7 := by omega
          have j0 : (0 : Int) ≤ (j : Int) := by omega
          clear hcx hq e hx hC hct
          go_wp2_with fail
          go_roundw
          case rel => exact ⟨HR.out, trivial⟩
          case measure => simp [intOf] <;> omega
        · have ej : j = 7 := by omega
          subst ej
          obtain ⟨q0, q7, q8⟩ := HCN.out
          have ht7 : Rd vB wr (some ⟨ga, oa + j8, none⟩) (oneL (B.take 7)) := by
            have := hmid.take 7
            rwa [show (oneL B).take 7 = oneL (B.take 7) from (List.map_take).symm] at this
          have hB7 : (B.take 7).length = 7 := by rw [List.length_take]; omega
          obtain ⟨C, hC⟩ : ∃ C, cntT (B.take 7) = C := ⟨_, rfl⟩
          rw [hC] at q0 q7 q8 ⊢
          clear hC
          by_cases ca : C = 0 ∨ C = 7
          · have hrg : rawG y = B.take 7 := by
              rw [HRG.out, if_pos (ca.elim (fun h => .inl (q0.1 h)) (fun h => .inr (q7.1 h)))]
            rw [hrg] at HRS
            have hcut := fun W => run_cut_to (P := Try.prog) 22 5 Try.underlying22 size_uint8 (some ⟨ga, oa + j8, none⟩) 8 (c1 - j8) 7 (by omega) W
            have HB7 : Hid ((oneL (B.take 7)).length = 7) := by unfold Hid; rw [one_length]; exact hB7
            generalize B.take 7 = G at ht7 HRS HB7
            clear q0 q7 q8 hrg HRG HCN hmid hB7
            rcases ca with c0 | c0
            · subst c0
              go_wp2_with (at_builtin; refine wpList_append_rd _ rfl _ _ 22 rfl w1.heap.size 5 i0 (.int .u8 0) 1 Try.underlying22 hi hz0 hz1 hz2 rfl _ _ _ rfl hown _ (oneL G) _ (by rw [HB7.out]; rfl) ht7 vB_one (by rw [HB7.out, one_length]; unfold maxLen; omega) (by rw [HB7.out, one_length]; omega) hsz ?_; intro v4 w4 hown4 hgrow4)
              have hB4 : Below w1.heap.size w1 w4 := hbel.grown hgrow4 hsz (fun g hk => (hown.lt g hk).1)
              have HR : Hid (GetR s w1 v4 (.int .i64 ((k : Int) + 1)) w4) := ⟨k + 1, hks, by go_num, by rw [HRS.out, one_append, List.length_append, List.map_append]; exact hown4, hB4⟩
              clear hown4 hgrow4 hown hbel hB4
              go_wp2_with fail
              go_roundw
              case rel => exact HR.out
              case measure => simp [intOf] <;> omega
            · subst c0
              go_wp2_with (at_builtin; refine wpList_append_rd _ rfl _ _ 22 rfl w1.heap.size 5 i0 (.int .u8 0) 1 Try.underlying22 hi hz0 hz1 hz2 rfl _ _ _ rfl hown _ (oneL G) _ (by rw [HB7.out]; rfl) ht7 vB_one (by rw [HB7.out, one_length]; unfold maxLen; omega) (by rw [HB7.out, one_length]; omega) hsz ?_; intro v4 w4 hown4 hgrow4)
              have hB4 : Below w1.heap.size w1 w4 := hbel.grown hgrow4 hsz (fun g hk => (hown.lt g hk).1)
              have HR : Hid (GetR s w1 v4 (.int .i64 ((k : Int) + 1)) w4) := ⟨k + 1, hks, by go_num, by rw [HRS.out, one_append, List.length_append, List.map_append]; exact hown4, hB4⟩
              clear hown4 hgrow4 hown hbel hB4
              go_wp2_with fail
              go_roundw
              case rel => exact HR.out
              case measure => simp [intOf] <;> omega
          · have hrg : rawG y = B := by
              rw [HRG.out, if_neg (fun h => ca (h.elim (fun h => .inl (q0.2 h)) (fun h => .inr (q7.2 h))))]
            rw [hrg] at HRS
            have HB8 : Hid ((oneL B).length = 8) := by unfold Hid; rw [one_length]; exact hBl
            have n0 : C ≠ 0 := fun h => ca (.inl h)
            have n7 : C ≠ 7 := fun h => ca (.inr h)
            have c0 : ((C : Int) == 0) = false := beq_eq_false_iff_ne.2 (by omega)
            have c7 : ((C : Int) == 7) = false := beq_eq_false_iff_ne.2 (by omega)
            clear q0 q7 q8 hrg HRG HCN ht7 hB7 ca
            go_wp2_with (at_builtin; refine wpList_append_rd _ rfl _ _ 22 rfl w1.heap.size 5 i0 (.int .u8 0) 1 Try.underlying22 hi hz0 hz1 hz2 rfl _ _ _ rfl hown _ (oneL B) _ (by rw [HB8.out]; exact congrArg (fun m => Value.slice (some ⟨ga, oa + j8, none⟩) m (c1 - j8)) k88) hmid vB_one (by rw [HB8.out, one_length]; unfold maxLen; omega) (by rw [HB8.out, one_length]; omega) hsz ?_; intro v4 w4 hown4 hgrow4)
            have hB4 : Below w1.heap.size w1 w4 := hbel.grown hgrow4 hsz (fun g hk => (hown.lt g hk).1)
            have HR : Hid (GetR s w1 v4 (.int .i64 ((k : Int) + 1)) w4) := ⟨k + 1, hks, by go_num, by rw [HRS.out, one_append, List.length_append, List.map_append]; exact hown4, hB4⟩
            clear hown4 hgrow4 hown hbel hB4
            go_wp2_with fail
            go_roundw
            case rel => exact HR.out
            case measure => simp [intOf] <;> omega
    · rename World => w5
      have ek : k = s.length := by rw [HN.out]; have := HN.out; omega
      rw [ek, List.take_length] at hown
      have HCD : Hid (candL s = cut8 (rawL s)) := rfl
      have hRl : (rawL s).length ≤ 80000 := by
        have := raw_length_le s
        rw [HN.out] at this
        omega
      generalize rawL s = R at hown HCD hRl
      have hown' := hown
      obtain ⟨A5, c5, rfl, hc5, hr5⟩ := own_slice (l := oneL R) hown'
      have HR5 : Hid ((oneL R).length = R.length) := one_length R
      rw [HR5.out] at hc5 ⊢
      have hb15 := below_step HB1.out hbel
      replace hr := hr.keep hbel
      have k1 : ¬ (k : Int) < (n : Int) := by omega
      have hcutl := cut_length _ R (Nat.le_refl _)
      clear hown hown' hbel hr1 ek
      go_wp2_with fail
      go_loopw [10, 11] (fun v i wr => CutR R w5 v i wr) (fun _ i _ => R.length - (intOf i).toNat)
      case atStart => exact ⟨0, [], rfl, by omega, World.ownsRow_nil _ _ _ _, Lib.hid rfl, Below.refl _ _⟩
      case round =>
        obtain ⟨p, O, rfl, hp, hown, HO, hbel⟩ := hrel
        have hOl : O.length ≤ 80000 := by
          have := congrArg List.length HO.out
          rw [List.length_append] at this
          omega
        have hsz := hbel.size
        by_cases h7 : p + 7 < R.length
        · have p7 : (p : Int) + 7 < (R.length : Int) := by omega
          have hpo : p < (oneL R).length := by rw [HR5.out]; omega
          obtain ⟨gr, or', rfl, hgr, hcr⟩ := hr5.at hpo
          have hmid := (hr5.keep hbel).mid p (p + 8) c5 (by rw [HR5.out]; exact hc5)
          rw [if_neg (by omega), show p + 8 - p = 8 by omega] at hmid
          have e1 : (some (⟨gr, or', none⟩ : Addr)).map (·.add (p * 1)) = some ⟨gr, or' + p, none⟩ := by
            simp only [Option.map_some, Nat.mul_one, Addr.add]
            split <;> simp_all
          have e2 : ((oneL R).drop p).take 8 = oneL ((R.drop p).take 8) := by
            unfold oneL
            rw [← List.map_drop, ← List.map_take]
          rw [e1, e2] at hmid
          have hl8 : ((R.drop p).take 8).length = 8 := by rw [List.length_take, List.length_drop]; omega
          have HNX := Lib.hid (cut_next (R.drop p) (by rw [List.length_drop]; omega))
          have hdd : (R.drop p).drop 8 = R.drop (p + 8) := List.drop_drop
          rw [hdd] at HNX
          have HO2 := HO.out
          rw [HNX.out] at HO2
          obtain ⟨z, hz⟩ : ∃ z, val8 ((R.drop p).take 8) = z := ⟨_, rfl⟩
          rw [hz] at HO2
          have HO3 : Hid ((O ++ [z]) ++ cut8 (R.drop (p + 8)) = cut8 R) := by unfold Hid; rw [← HO2, List.append_assoc]; rfl
          have hz2 : val8 ((R.drop p).take 8) = z := hz
          generalize (R.drop p).take 8 = G at hmid hl8 hz2
          have HZ := Lib.hid hz2
          have p0 : (0 : Int) ≤ (p : Int) := by omega
          have p8c : (p : Int) + 8 ≤ (c5 : Int) := by omega
          have pnc : ¬ c5 = p := by omega
          have p88 : p + 8 - p = 8 := by omega
          have HL8 := Lib.hid hl8
          clear e1 e2 hcr hdd HO2 hz hz2 HNX hpo hl8
          go_wp2_with fail
          refine (refvalue_any G _ (c5 - p) _ HL8.out hmid).mono ?_
          rintro e w7 ⟨rfl, rfl⟩
          rw [HZ.out]
          go_wp2_with (at_builtin; refine wpList_append_own _ rfl _ _ 22 rfl w5.heap.size 5 i0 (.int .u8 0) 1 1 Try.underlying22 hi hz0 hz1 hz2 rfl (by decide) _ _ _ rfl (hown.alloc _) ⟨wr.heap.size, 0, none⟩ 1 1 [.int .u8 (z.toNat : Int)] rfl rfl (cell_one_new _ _ _) (by intro u hu; simp at hu; subst hu; rfl) (by unfold maxLen; omega) (by omega) (by simp; omega) ?_; intro v8 w8 hown8 hgrow8 _)
          have hB8 : Below w5.heap.size w5 w8 := (hbel.alloc hbel.size _).grown hgrow8 (by simp; omega) (fun g hk => (hown.lt g hk).1)
          have HR : Hid (CutR R w5 v8 (.int .i64 ((p : Int) + 8)) w8) := ⟨p + 8, O ++ [z], by go_num, by omega, by rw [List.length_append, List.map_append]; exact hown8, HO3, hB8⟩
          clear hown8 hgrow8 hown hbel hB8
          go_wp2_with fail
          go_roundw
          case rel => exact HR.out
          case measure => simp [intOf] <;> omega
        · have p7 : ¬ (p : Int) + 7 < (R.length : Int) := by omega
          have hcs := cut_short (R.drop p) (by rw [List.length_drop]; omega)
          have e := HO.out
          rw [hcs, List.append_nil] at e
          have HOC : Hid (O = candL s) := by unfold Hid; rw [HCD.out]; exact e
          obtain ⟨A6, c6, rfl, hc6, hr6⟩ := own_slice hown
          have HOL : Hid (O.length = O.length) := rfl
          have hs1 := strY (c := c) n HN (hr.keep hbel)
          have hb16 := below_step hb15 hbel
          have hOs : O.length ≤ 10000 := by rw [e]; omega
          clear hown hr5 hr hcs e
          obtain ⟨T, hT⟩ : ∃ T, putT O = T := ⟨_, rfl⟩
          have hst : ((strL T).toList == (strL s).toList) = ok := by
            rw [strs_beq, ← HOK.out, ← HOC.out, hT, Bool.eq_iff_iff, beq_iff_eq, decide_eq_true_iff]
          have hsn : ((strL T).toList != (strL s).toList) = !ok := by rw [bne, hst]
          have HLO : Hid (LG = if ok = true then O else []) := by
            unfold Hid
            rw [← HLG.out, ← HOC.out, hT]
            have hk := HOK.out
            rw [← HOC.out, hT] at hk
            by_cases h : T = s
            · rw [if_pos h, if_pos (by rw [← hk]; exact decide_eq_true h)]
            · rw [if_neg h, if_neg (by rw [← hk, decide_eq_false h]; decide)]
          have HT := Lib.hid hT
          clear hT
          go_upto_region 20 with fail
          have hBase := (Below.refl wr.heap.size wr).drew
          refine wp_region_plan (.step 0 false (.step 3 false (.step 4 false (.step 1 true (.step 2 false (.step 5 false (.nil))))))) (by kernel_rfl) (by kernel_rfl) (by rfl) (by kernel_rfl) ?_
          iterate 3 (refine plan_read rfl (by rfl) (v := ?_) ?_ ?_; rotate_left 1; (intro W hW; have hW0 := below_step hBase hW; (try dsimp only at hW); go_simp <;> with_reducible rfl); simp only [List.getElem_toArray, List.getElem_cons_zero, List.getElem_cons_succ, Act.put, List.setIfInBounds_toArray, List.set_cons_zero, List.set_cons_succ])
          (refine plan_make rfl (by rfl) (fun K hK => ?_); go_simp; (refine (refputT_any O O.length _ c6 _ HOL (hr6.keep hBase) (by omega)).mono ?_; rintro e w7 ⟨A7, n7, c7, rfl, HN7, hc7, hr7, hbx⟩; rw [HT.out] at HN7 hr7); refine hK.out _ _ hbx ?_; clear hK K; replace hBase := below_step hBase hbx)
          have hs2 := strY (c := c7) n7 HN7 hr7
          iterate 2 (refine plan_read rfl (by rfl) (v := ?_) ?_ ?_; rotate_left 1; (intro W hW; have hW0 := below_step hBase hW; (try dsimp only at hW); go_simp <;> with_reducible rfl); simp only [List.getElem_toArray, List.getElem_cons_zero, List.getElem_cons_succ, Act.put, List.setIfInBounds_toArray, List.set_cons_zero, List.set_cons_succ])
          refine plan_done ?_
          have hr8 := hr6.keep hBase
          have hB8 := below_step hb16 hBase
          clear hs1 hs2 hst hr6 hr7 hbel
          cases ok
          · have hsn' : ((strL T).toList != (strL s).toList) = true := hsn
            clear hsn
            go_wp2_with fail
            go_ret2
            rw [HLO.out]
            exact ⟨none, 0, 0, rfl, Lib.hid rfl, Nat.le_refl _, Rd.nil, hB8⟩
          · have hsn' : ((strL T).toList != (strL s).toList) = false := hsn
            clear hsn
            go_wp2_with fail
            go_ret2
            have e : LG = O := by simpa using HLO.out
            rw [e]
            exact ⟨A6, O.length, c6, rfl, Lib.hid rfl, hc6, hr8, hB8⟩
end Go.Proofs.Ytaknikbnajkccaa
