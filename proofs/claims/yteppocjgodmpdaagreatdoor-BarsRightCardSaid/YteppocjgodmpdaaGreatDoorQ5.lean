/-
  What the program's calls Right, Write and Msg of layer 12 answer (landed code). No conditions but those typed.
-/
import Derived.Test.YteppocjgodmpdaaGreatDoorQ4
import Derived.WalkKit
import Derived.WalkSpells
import Derived.LoopTactic
import Derived.Lib.Hide
namespace Go.Proofs.YteppocjgodmpdaaGreatDoor
set_option maxRecDepth 100000
open Go.RowKit
set_option linter.unusedSimpArgs false
set_option linter.unusedVariables false

theorem size_pay' : (Tryz.prog.info? 77).map (·.size) = some 4 := by kernel_rfl
/-! ### Least, in memory of the call's own -/
def LeastOwn (B : Nat) (L : List UInt8) (w : World) (s : Value) : Prop := ∃ (M : List UInt8) (A : Option Addr) (cap : Nat), s = .slice A M.length cap ∧ M.length ≤ cap ∧ M.length ≤ 8 ∧ Rd vB w A M ∧ L.dropWhile (· == 0) = M.dropWhile (· == 0) ∧ (∀ a, A = some a → B ≤ a.block)
theorem least_new (v : Nat) (hv : v < 18446744073709551616) (w : World) :
    Calls Tryz.prog 118 #[.int .u64 (v : Int)] w (RetN vB w (leastL v)) := by
  have H8 : Hid (∀ L, L = putL v → L.length = 8) := by rintro L rfl; rfl
  have HL : Hid (∀ L, L = putL v → leastL v = L.dropWhile (· == 0)) := by rintro L rfl; rfl
  go_enter Tryz.func118, Tryz.ntmps118
  go_wp2_with (go_at_call 166; refine (put_new v hv _).mono ?_; rintro e w1 ⟨A, cap, rfl, hcap, hrd, hown, hbel⟩)
  obtain ⟨L, e⟩ : ∃ L, L = putL v := ⟨_, rfl⟩
  have h8 := H8.out L e
  have HL' := Lib.hid (HL.out L e)
  rw [← e] at hcap hrd ⊢
  clear HL H8 e
  go_loop [3] (fun s => LeastOwn w.heap.size L w1 s) (fun s => sliceLen s)
  case atStart => exact ⟨L, A, cap, rfl, hcap, by omega, hrd, rfl, hown⟩
  case round =>
    obtain ⟨M, A1, cap1, rfl, hcap1, hm8, hrd1, hdw, hown1⟩ := hrel
    have HD := Lib.hid hdw
    clear hdw h8 hrd hcap hown
    cases M with
    | nil =>
      have HO := Lib.hid hown1
      clear hown1
      go_wp2
      go_ret
      exact ⟨A1, cap1, by rw [HL'.out, HD.out]; rfl, by rw [HL'.out, HD.out]; simp, by rw [HL'.out, HD.out]; exact Rd.nil, HO.out, hbel⟩
    | cons c M =>
      obtain ⟨b, o, rfl, hb, hcell⟩ := hrd1.at (k := 0) (by simp)
      have hc := hcell 0 (by simp)
      simp only [List.getElem_cons_zero, Nat.add_zero, vB] at hc
      have HO : Hid (w.heap.size ≤ b) := hown1 _ rfl
      clear hown1
      by_cases hz : c = 0
      · subst hz
        have hc' : w1.cell? ⟨b, o, none⟩ = some (.int .u8 0) := hc
        have hrd2 : Rd vB w1 (if cap1 = 1 then some ⟨b, o, none⟩ else some ⟨b, o + 1, none⟩) M := by
          have := hrd1.drop 1 cap1 hcap1
          simpa [Addr.add] using this
        have hM : M.length + 1 ≤ cap1 := by simpa using hcap1
        have hM8 : M.length + 1 ≤ 8 := by simpa using hm8
        have HD' : Hid (L.dropWhile (· == 0) = M.dropWhile (· == 0)) := by
          unfold Hid
          rw [HD.out, List.dropWhile_cons, if_pos (by rfl)]
        clear hc hcell hrd1 hcap1 hm8
        go_wp2
        go_round
        case rel => exact ⟨M, _, cap1 - 1, rfl, by omega, by omega, hrd2, HD'.out, fun a ha => by split at ha <;> (injection ha with ha; subst ha; exact HO.out)⟩
        case measure => simp [sliceLen]
      · have hne : ((c.toNat : Int) == 0) = false := by
          have : c.toNat ≠ 0 := fun h => hz (UInt8.toNat_inj.1 h)
          simp
          omega
        have HF : Hid (L.dropWhile (· == 0) = c :: M) := by
          unfold Hid
          rw [HD.out, List.dropWhile_cons, if_neg (by simpa using hz)]
        clear hz hcell
        go_wp2
        go_ret
        exact ⟨_, cap1, by rw [HL'.out, HF.out]; rfl, by rw [HL'.out, HF.out]; exact hcap1, by rw [HL'.out, HF.out]; exact hrd1, (fun a ha => by injection ha with ha; subst ha; exact HO.out), hbel⟩

/-! ### Right -/
theorem rightP_any (t e c : Nat) (tag : List UInt8) (n : Nat) (A : Option Addr) (k : Nat) (w : World) (HN : Hid (tag.length = n)) (hr : Rd vB w A tag) (hk : n ≤ k) (hn : n ≤ 100000) :
    Calls Tryz.prog 117 #[aggP t e c A n k] w fun e₁ w' => e₁ = .returned (.bool (decide (n = 8))) ∧ Below w.heap.size w w' := by
  obtain ⟨hR0, hB0⟩ := box_pay w 77 (.int .u64 (t : Int)) (.int .u64 (e : Int)) (.int .u64 (c : Int)) (.slice A n k)
  have hd : ((n : Int) == 8) = decide (n = 8) := by
    by_cases h : n = 8
    · subst h; rfl
    · rw [decide_eq_false h]; exact beq_eq_false_iff_ne.2 (by omega)
  rw [← hd]
  clear hd
  unfold aggP
  go_enter Tryz.func117, Tryz.ntmps117
  go_upto_region 1 with fail
  generalize (w.alloc (.cells #[.int .u64 (t : Int), .int .u64 (e : Int), .int .u64 (c : Int), .slice A n k] 77)) = W0 at hR0 hB0 ⊢
  have c3 : W0.cell? ⟨w.heap.size, 3, none⟩ = some (.slice A n k) := hR0.cell rfl
  go_wp2_with fail
  go_ret
  exact ⟨rfl, hB0⟩

/-! ### Write -/
theorem writeP_no (t e c : Nat) (tag : List UInt8) (n : Nat) (A : Option Addr) (k : Nat) (w : World) (ht : t < 18446744073709551616) (he : e < 18446744073709551616) (hc : c < 18446744073709551616) (HN : Hid (tag.length = n)) (hr : Rd vB w A tag) (hk : n ≤ k) (hn : n ≤ 100000) (h8 : n ≠ 8) :
    Calls Tryz.prog 67 #[aggP t e c A n k] w (RetV w [] 1) := by
  obtain ⟨hR0, hB0⟩ := box_pay w 77 (.int .u64 (t : Int)) (.int .u64 (e : Int)) (.int .u64 (c : Int)) (.slice A n k)
  unfold aggP
  go_enter Tryz.func67, Tryz.ntmps67
  go_upto_region 1 with fail
  generalize (w.alloc (.cells #[.int .u64 (t : Int), .int .u64 (e : Int), .int .u64 (c : Int), .slice A n k] 77)) = W0 at hR0 hB0 ⊢
  go_wp2_with (refine wpList_load_part rfl 77 (.tmp 1) rfl w.heap.size 0 rfl _ _ hR0 [.int .u64 (t : Int), .int .u64 (e : Int), .int .u64 (c : Int), .slice A n k] (by rfl) _ Tryz.underlying77 rfl (by exact size_pay') ?_)
  refine (rightP_any t e c tag n A k _ HN (hr.keep hB0) hk hn).mono ?_
  rw [decide_eq_false h8]
  rintro e₁ w1 ⟨rfl, hb⟩
  go_wp2_with fail
  go_ret2
  exact ⟨none, 0, 0, rfl, Lib.hid rfl, Nat.le_refl _, Rd.nil, below_step hB0 hb⟩
def WrV (N : List Nat) (cp : List Value) (w : World) (v iv : Value) (wr : World) : Prop :=
  ∃ i : Nat, i ≤ 3 ∧ iv = .int .i64 (i : Int) ∧ wr.ownsRow (w.heap.size + 1) 5 1 v (preF N i).length ((preF N i).map vB) ∧ Row wr w.heap.size 77 cp ∧ Below w.heap.size w wr
set_option maxRecDepth 100000 in
set_option maxHeartbeats 2000000 in
theorem writeP_ok (t e c : Nat) (tag : List UInt8) (A : Option Addr) (k : Nat) (w : World) (ht : t < 18446744073709551616) (he : e < 18446744073709551616) (hc : c < 18446744073709551616) (HN : Hid (tag.length = 8)) (hr : Rd vB w A tag) (hk : 8 ≤ k) :
    Calls Tryz.prog 67 #[aggP t e c A 8 k] w (RetV w (writeF t e c tag) 0) := by
  obtain ⟨i0, hi, hz0, hz1, hz2⟩ := info_parts info_u8
  obtain ⟨hR0, hB0⟩ := box_pay w 77 (.int .u64 (t : Int)) (.int .u64 (e : Int)) (.int .u64 (c : Int)) (.slice A 8 k)
  have HALL : Hid (∀ x ∈ [t, e, c], x < 18446744073709551616) := fun x hx => by
    simp at hx
    rcases hx with rfl | rfl | rfl <;> assumption
  unfold aggP
  go_enter Tryz.func67, Tryz.ntmps67
  go_upto_region 1 with fail
  generalize (w.alloc (.cells #[.int .u64 (t : Int), .int .u64 (e : Int), .int .u64 (c : Int), .slice A 8 k] 77)) = W0 at hR0 hB0 ⊢
  go_wp2_with (refine wpList_load_part rfl 77 (.tmp 1) rfl w.heap.size 0 rfl _ _ hR0 [.int .u64 (t : Int), .int .u64 (e : Int), .int .u64 (c : Int), .slice A 8 k] (by rfl) _ Tryz.underlying77 rfl (by exact size_pay') ?_)
  refine (rightP_any t e c tag 8 A k _ HN (hr.keep hB0) hk (by omega)).mono ?_
  rw [show decide ((8 : Nat) = 8) = true from rfl]
  rintro e₁ W1 ⟨rfl, hb⟩
  replace hR0 := hR0.later hb
  replace hB0 := below_step hB0 hb
  clear hb
  go_upto_region 3 with fail
  have hgl0 := hR0.lt
  have hown0 : (W1.alloc (.cells #[.int .u8 87] 5)).ownsRow (w.heap.size + 1) 5 1 (.slice (some ⟨W1.heap.size, 0, none⟩) 1 1) 1 ([(87 : UInt8)].map vB) := own_base (own_lit W1 5 ([(87 : UInt8)].map vB) #[.int .u8 87] rfl (by unfold maxLen; simp)) (by omega)
  have hbn := below_new (Below.refl W1.heap.size W1) (.cells #[.int .u8 87] 5)
  replace hR0 := hR0.later hbn
  replace hB0 := below_step hB0 hbn
  go_upto_region 4 with fail
  generalize W1.alloc (.cells #[.int .u8 87] 5) = W2 at hown0 hR0 hB0 ⊢
  have c0 : W2.cell? ⟨w.heap.size, 0, none⟩ = some (.int .u64 (t : Int)) := hR0.cell rfl
  have c1 : W2.cell? ⟨w.heap.size, 1, none⟩ = some (.int .u64 (e : Int)) := hR0.cell rfl
  have c2 : W2.cell? ⟨w.heap.size, 2, none⟩ = some (.int .u64 (c : Int)) := hR0.cell rfl
  generalize W1.heap.size = g1 at *
  clear hbn hgl0
  go_wp2_with fail
  clear c0 c1 c2
  have HPW : Hid (preF [t, e, c] 3 ++ tag = writeF t e c tag) := pre_write t e c tag
  obtain ⟨N, hN⟩ : ∃ N, N = [t, e, c] := ⟨_, rfl⟩
  have HIX := Lib.hid (index_three N t e c hN)
  have hN3 : N.length = 3 := by rw [hN]; rfl
  rw [← hN] at HALL HPW
  have HPR : Hid (w.heap.size ≤ W2.heap.size) := hB0.size
  have hown0' : W2.ownsRow (w.heap.size + 1) 5 1 (.slice (some ⟨g1, 0, none⟩) 1 1) (preF N 0).length ((preF N 0).map vB) := by
    have : preF N 0 = [87] := by simp [preF]
    rw [this]
    exact hown0
  clear hN hown0
  go_loopw [4, 19] (fun v iv wr => WrV N [.int .u64 (t : Int), .int .u64 (e : Int), .int .u64 (c : Int), .slice A 8 k] w v iv wr) (fun _ i _ => 3 - (intOf i).toNat)
  case atStart => exact ⟨0, by omega, rfl, hown0', hR0, hB0⟩
  case round =>
    clear hown0' hR0 hB0
    obtain ⟨i, hi3, rfl, hown, hRp, hbel⟩ := hrel
    have hpl := pre_length N i
    by_cases h : i < 3
    · have hiN : i < N.length := by omega
      have HPN := Lib.hid (pre_next N i hiN)
      have hx := HALL.out N[i] (List.getElem_mem hiN)
      have hix := HIX.out i hiN
      have i1 : (i : Int) < 3 := by omega
      have i0' : (0 : Int) ≤ (i : Int) := by omega
      generalize N[i] = x at hx hix HPN
      have HX := Lib.hid hx
      generalize preF N i = P at hown hpl HPN
      clear hx
      go_wp2_with fail
      refine (least_new x HX.out _).mono ?_
      rintro ee w1 ⟨A1, c1, rfl, hc1, hr1, hA1, hb1⟩
      have hvb : ∀ b, Value.ownBlock u4 = some b → b < wr.heap.size := fun b hb => (hown.lt b hb).2
      have hll := leastL_length x
      have HNM : Hid (numF x = UInt8.ofNat (leastL x).length :: leastL x) := rfl
      generalize leastL x = L at hc1 hr1 hll HNM ⊢
      obtain ⟨m, hm⟩ : ∃ m, L.length = m := ⟨_, rfl⟩
      have hy : (UInt8.ofNat m).toNat = m := by rw [UInt8.toNat_ofNat']; omega
      have HM := Lib.hid hm
      rw [hm] at hc1 hll HNM ⊢
      generalize UInt8.ofNat m = y at hy HNM
      have hyi : IntKind.u8.wrap (m : Int) = (y.toNat : Int) := by rw [IntKind.wrap_u8', hy]; omega
      have hyj : (m : Int) % 256 = (y.toNat : Int) := by rw [hy]; omega
      have hown1 := ownsRow_later hown hb1
      have hRp1 := hRp.later hb1
      have hB1 := below_step hbel hb1
      have hsz1 := hB1.size
      have hgl := hRp.lt
      have hs11 := hb1.size
      have hry : Rd vB (w1.alloc (.cells #[.int .u8 (y.toNat : Int)] 5)) (some ⟨w1.heap.size, 0, none⟩) [y] := Rd.new w1 [y] _ _ rfl
      have hbn := below_new (Below.refl w1.heap.size w1) (.cells #[.int .u8 (y.toNat : Int)] 5)
      have hbs := hbn.size
      replace hown1 := ownsRow_later hown1 hbn
      replace hRp1 := hRp1.later hbn
      replace hr1 := hr1.keep hbn
      replace hB1 := below_step hB1 hbn
      clear hown hRp hbel hb1 hbn hm hy
      go_upto_region 9 with (at_builtin; refine wpList_append_apart _ rfl (.tmp 24) (.tmp 28) 22 rfl (w.heap.size + 1) 5 i0 (.int .u8 0) 1 Tryz.underlying22 hi hz0 hz1 hz2 rfl _ _ _ rfl hown1 _ ([y]) 1 rfl hry vB_one (by show P.length + 1 ≤ maxLen; unfold maxLen; omega) (by show (P.length + 1) * 1 ≤ _; omega) (by omega) ?_; intro v3 w3 hown3 hgrow3 hat3)
      have hB3 : Below w.heap.size w w3 := hB1.grown hgrow3 (by omega) (fun k hk => by have := (hown1.lt k hk).1; omega)
      have hRp3 := hRp1.grown hgrow3 (fun e => by have := (hown1.lt _ e).1; omega)
      have hr3 := hr1.grown hgrow3 (fun a ha e => by have h1 := hA1 a ha; have h2 := hvb _ e; omega)
      clear hown1 hgrow3 hRp1 hr1 hB1
      have e1 : P.length + [y].length = (P ++ [y]).length := by rw [List.length_append]
      have e2 : P.map vB ++ [y].map vB = (P ++ [y]).map vB := by rw [List.map_append]
      rw [e1, e2] at hown3
      have hP1 : (P ++ [y]).length ≤ 100 := by rw [List.length_append]; simp; omega
      have HPP : Hid (preF N (i + 1) = (P ++ [y]) ++ L) := by unfold Hid; rw [HPN.out, HNM.out]; simp
      generalize P ++ [y] = P1 at hown3 hP1 HPP
      clear e1 e2
      have hgl3 := hRp3.lt
      go_wp2_with (at_builtin; refine wpList_append_apart _ rfl (.tmp 30) (.tmp 31) 22 rfl (w.heap.size + 1) 5 i0 (.int .u8 0) 1 Tryz.underlying22 hi hz0 hz1 hz2 rfl _ _ _ rfl hown3 A1 L c1 (by rw [HM.out]; rfl) hr3 vB_one (by rw [HM.out]; unfold maxLen; omega) (by rw [HM.out]; omega) (by omega) ?_; intro v4 w4 hown4 hgrow4 hat4)
      have hB4 : Below w.heap.size w w4 := hB3.grown hgrow4 hB3.size (fun k hk => by have := (hown3.lt k hk).1; omega)
      have HREL : Hid (WrV N [.int .u64 (t : Int), .int .u64 (e : Int), .int .u64 (c : Int), .slice A 8 k] w v4 (.int .i64 ((i : Int) + 1)) w4) :=
        ⟨i + 1, by omega, by go_num, by rw [HPP.out, List.length_append, List.map_append]; exact hown4, hRp3.grown hgrow4 (fun e => by have := (hown3.lt _ e).1; omega), hB4⟩
      clear hown4 hgrow4 hown3 hB4 hB3 hRp3
      go_wp2_with fail
      go_roundw
      case rel => exact HREL.out
      case measure => simp [intOf] <;> omega
    · have ei : i = 3 := by omega
      subst ei
      have hcell : wr.cell? ⟨w.heap.size, 3, none⟩ = some (.slice A 8 k) := hRp.cell rfl
      have hrt := hr.keep hbel
      have i1 : ¬ (3 : Int) < 3 := by omega
      have hs := hbel.size
      have hgl := hRp.lt
      generalize preF N 3 = P at hown hpl HPW
      go_wp2_with (at_builtin; refine wpList_append_apart _ rfl (.tmp 34) (.tmp 36) 22 rfl (w.heap.size + 1) 5 i0 (.int .u8 0) 1 Tryz.underlying22 hi hz0 hz1 hz2 rfl _ _ _ rfl hown A tag k (by rw [HN.out]; rfl) hrt vB_one (by rw [HN.out]; unfold maxLen; omega) (by rw [HN.out]; omega) (by omega) ?_; intro v4 w4 hown4 hgrow4 hat4)
      have hB4 : Below w.heap.size w w4 := hbel.grown hgrow4 hbel.size (fun k hk => by have := (hown.lt k hk).1; omega)
      rw [← List.map_append, ← List.length_append, HPW.out] at hown4
      obtain ⟨A4, c4, rfl, hc4, hr4⟩ := own_slice hown4
      clear hown4 hgrow4
      go_wp2_with fail
      go_ret2
      exact ⟨A4, _, c4, rfl, Lib.hid rfl, hc4, hr4, hB4⟩

/-! ### Msg -/
def mreF (N : List Nat) (i : Nat) : List UInt8 := 67 :: (N.take i).flatMap putL
theorem mre_next (N : List Nat) (i : Nat) (h : i < N.length) : mreF N (i + 1) = mreF N i ++ putL N[i] := by
  unfold mreF
  rw [List.take_succ_eq_append_getElem h, List.flatMap_append, List.cons_append]
  simp
theorem mre_length (N : List Nat) (i : Nat) : (mreF N i).length ≤ 1 + 8 * i := by
  induction i with
  | zero => simp [mreF]
  | succ i ih =>
    rcases Nat.lt_or_ge i N.length with h | h
    · rw [mre_next N i h, List.length_append, putL_len]
      omega
    · have e : mreF N (i + 1) = mreF N i := by unfold mreF; rw [List.take_of_length_le (by omega), List.take_of_length_le h]
      rw [e]
      omega
def MsV (N : List Nat) (w : World) (v iv : Value) (wr : World) : Prop :=
  ∃ i : Nat, i ≤ 3 ∧ iv = .int .i64 (i : Int) ∧ wr.ownsRow w.heap.size 5 1 v (mreF N i).length ((mreF N i).map vB) ∧ Below w.heap.size w wr
end Go.Proofs.YteppocjgodmpdaaGreatDoor
/-
  What the reference's call Read of layer 12 answers. No conditions but those typed.
-/
namespace Go.Proofs.YteppocjgodmpdaaGreatDoor
set_option maxRecDepth 100000
open Go.RowKit
set_option linter.unusedSimpArgs false
set_option linter.unusedVariables false

theorem info_u64 : (Tryz.prog.info? 28).map (fun i => (i.zero, i.size, i.bytes)) = some (some (.int .u64 0), 1, 8) := by kernel_rfl
theorem size_pay : (Tryz.prog.info? 77).map (·.size) = some 4 := by kernel_rfl
abbrev ResF := Int × Nat × Nat × Nat × List UInt8
def contF : Nat → List Nat → List UInt8 → ResF
  | 0, v, r => readT (v.getD 0 0) (v.getD 1 0) (v.getD 2 0) r
  | k + 1, v, r => if (readN r).1 = 0 then contF k (v ++ [(readN r).2.1]) (readN r).2.2 else ((readN r).1, 0, 0, 0, [])
theorem cont_succ (k : Nat) (v : List Nat) (r : List UInt8) : contF (k + 1) v r = if (readN r).1 = 0 then contF k (v ++ [(readN r).2.1]) (readN r).2.2 else ((readN r).1, 0, 0, 0, []) := rfl
theorem value_at (l : List UInt8) (m : Nat) (A : Option Addr) (cap : Nat) (w : World) (HL : Hid (l.length = m)) (hr : Rd vB w A l) (hm : m ≤ 8) :
    Calls Tryz.prog 146 #[.slice A m cap] w fun e w' => e = .returned (.int .u64 (valN l : Int)) ∧ w = w' := by
  have e := HL.out
  subst e
  have hv := valN_lt8 l hm
  rw [show (valN l : Int) = ((valN l % 18446744073709551616 : Nat) : Int) by rw [Nat.mod_eq_of_lt hv]]
  exact value_any l A cap w hr (by omega)
theorem cont_read (r : List UInt8) : contF 3 [] r = readB r := by
  simp only [readB, readE, readC, contF]
  rfl
/-- A call that hands back a payload and an error. -/
def RetPay (w : World) (F : ResF) (e : Ending) (w' : World) : Prop := ∃ A n k, e = .returned (.tuple #[aggP F.2.1 F.2.2.1 F.2.2.2.1 A n k, .int .i64 F.1]) ∧ Hid (F.2.2.2.2.length = n) ∧ n ≤ k ∧ Rd vB w' A F.2.2.2.2 ∧ Below w.heap.size w w'
def threeP (g o : Nat) (a b c : Value) (W : World) : Prop := W.cell? ⟨g, o, none⟩ = some a ∧ (W.cell? ⟨g, o + 1, none⟩ = some b ∧ W.cell? ⟨g, o + 2, none⟩ = some c)
def RdR (b : List UInt8) (F : ResF) (w : World) (at' v iv : Value) (wr : World) : Prop :=
  ∃ (i p : Nat) (N : List Nat), i ≤ 3 ∧ N.length = i ∧ p ≤ b.length ∧ iv = .int .i64 (i : Int) ∧ at' = .int .i64 (p : Int) ∧ Hid (contF (3 - i) N (b.drop p) = F) ∧ wr.ownsRow (w.heap.size + 1) 28 1 v i (N.map uV) ∧ Row wr w.heap.size 77 [.int .u64 0, .int .u64 0, .int .u64 0, .slice none 0 0] ∧ Below w.heap.size w wr

set_option maxRecDepth 100000 in
set_option maxHeartbeats 4000000 in
theorem refreadF_any (b : List UInt8) (n : Nat) (A : Option Addr) (c : Nat) (w : World) (HN : Hid (b.length = n)) (hr : Rd vB w A b) (hc : n ≤ c) (hn : n ≤ 100000) :
    Calls Tryz.prog 80 #[.slice A n c] w (RetPay w (readF b)) := by
  obtain ⟨i0, hi, hz0, hz1, hz2⟩ := info_parts info_u64
  obtain ⟨i8, hi8, hy0, hy1, hy2⟩ := info_parts info_u8
  obtain ⟨F, hF0⟩ : ∃ F, readF b = F := ⟨_, rfl⟩
  rw [hF0]
  obtain ⟨hR0, hB0⟩ := box_pay w 77 (.int .u64 0) (.int .u64 0) (.int .u64 0) (.slice none 0 0)
  have e1 := HN.out
  subst e1
  go_enter Tryz.func80, Tryz.ntmps80
  go_upto_region 1 with fail
  generalize (w.alloc (.cells #[.int .u64 0, .int .u64 0, .int .u64 0, .slice none 0 0] 77)) = W0 at hR0 hB0 ⊢
  by_cases h0 : b.length = 0
  · have hb0 : b = [] := List.eq_nil_of_length_eq_zero h0
    have l0 : ((b.length : Int) == 0) = true := beq_iff_eq.2 (by omega)
    have hF : F = (2, 0, 0, 0, []) := by rw [← hF0, hb0]; rfl
    subst hF
    go_wp2_with (refine wpList_store_row rfl 77 (.tmp 2) (.tmp 11) rfl w.heap.size rfl [.int .u64 0, .int .u64 0, .int .u64 0, .slice none 0 0] rfl _ _ hR0 (by exact size_pay) rfl (one_four _ _ _ _ rfl rfl rfl rfl) ?_)
    refine bodyPost_ret (results_row_tmp (p := 2) (u := 3) (ty := 77) (by rfl) _ _ w.heap.size 77 _ _ (by rfl) (by exact hR0.setRow _) Tryz.underlying77 (by rfl) (by exact size_pay)) (by rfl) ?_
    exact ⟨none, 0, 0, rfl, Lib.hid rfl, Nat.le_refl _, Rd.nil, below_setRow hB0 (Nat.le_refl _) _⟩
  · obtain ⟨x, r, hb⟩ : ∃ x r, b = x :: r := by
      cases b with
      | nil => exact absurd rfl h0
      | cons x r => exact ⟨x, r, rfl⟩
    have hbl : 0 < b.length := by omega
    obtain ⟨g, o, rfl, hg, hcell⟩ := hr.at hbl
    have hx0 : W0.cell? ⟨g, o, none⟩ = some (.int .u8 (x.toNat : Int)) := by
      have := hcell 0 hbl
      rw [show b[0] = x by simp [hb]] at this
      exact (hB0.cell (p := ⟨g, o, none⟩) hg).trans this
    have l0 : ((b.length : Int) == 0) = false := beq_eq_false_iff_ne.2 (by omega)
    have l1 : (0 : Int) < (b.length : Int) := by omega
    have hrF : F = if x ≠ 87 then (3, 0, 0, 0, []) else readB r := by rw [← hF0, hb, readF_cons]
    have hdr : b.drop 1 = r := by rw [hb]; rfl
    have hbne : b ≠ [] := by rw [hb]; simp
    clear hb hF0
    by_cases h87 : x = 87
    · subst h87
      have hx1 : W0.cell? ⟨g, o, none⟩ = some (.int .u8 87) := hx0
      have HST : Hid (contF (3 - 0) [] (b.drop 1) = F) := by unfold Hid; rw [hdr, cont_read, hrF, if_neg (by simp)]
      have HCL := Lib.hid hcell
      clear hx0 hrF hdr hcell
      go_wp2_with fail
      go_loopw [4, 5, 6] (fun at' v iv wr => RdR b F w at' v iv wr) (fun _ _ i _ => 3 - (intOf i).toNat)
      case atStart => exact ⟨0, 1, [], by omega, rfl, by omega, rfl, rfl, HST, World.ownsRow_nil _ _ _ _, hR0, hB0⟩
      case round =>
        clear hR0 hB0 hx1
        obtain ⟨i, p, N, hi3, hNl, hp, rfl, rfl, HF, hown, hRp, hbel⟩ := hrel
        have hgp := hRp.lt
        by_cases h : i < 3
        · have hFF := HF.out
          rw [show 3 - i = (2 - i) + 1 by omega, cont_succ] at hFF
          have i1 : (i : Int) < 3 := by omega
          by_cases hpl : p < b.length
          · obtain ⟨y, hy⟩ : ∃ y, b[p] = y := ⟨_, rfl⟩
            have hdp : b.drop p = y :: b.drop (p + 1) := by rw [← hy]; exact List.drop_eq_getElem_cons hpl
            have hSl : (b.drop (p + 1)).length = b.length - (p + 1) := List.length_drop
            have hcy : wr.cell? ⟨g, o + p, none⟩ = some (.int .u8 (y.toNat : Int)) := by rw [← hy]; exact (hbel.cell (p := ⟨g, o + p, none⟩) hg).trans (HCL.out p hpl)
            have hdd : ∀ q, (b.drop (p + 1)).drop q = b.drop (p + 1 + q) := fun q => List.drop_drop
            have hhd : ∀ z, b[p + 1]? = some z → (b.drop (p + 1)).head? = some z := fun z hz => by rw [List.head?_drop, hz]
            rw [hdp, readN_cons] at hFF
            have hmid : ∀ m', Rd vB wr (if c = p + 1 then some ⟨g, o, none⟩ else (some (⟨g, o, none⟩ : Addr)).map (·.add ((p + 1) * 1))) ((b.drop (p + 1)).take m') := fun m' => by
              have := (hr.keep hbel).mid (p + 1) (p + 1 + m') c hc
              rwa [show p + 1 + m' - (p + 1) = m' by omega] at this
            have hsl := fun m' h W => cut_mid (some ⟨g, o, none⟩) b.length c (p + 1) m' h W
            obtain ⟨q, hq⟩ : ∃ q, q = p + 1 := ⟨_, rfl⟩
            rw [← hq] at hFF hSl hdd hhd hmid hsl
            generalize b.drop q = S at hFF hSl hdd hhd hmid
            generalize (if c = q then some (⟨g, o, none⟩ : Addr) else (some (⟨g, o, none⟩ : Addr)).map (·.add (q * 1))) = A' at hmid hsl
            have hyl := y.toNat_lt
            generalize y.toNat = m at hFF hcy hyl
            have p1 : (p : Int) < (b.length : Int) := by omega
            have p0 : (0 : Int) ≤ (p : Int) := by omega
            have mw : True → IntKind.i64.wrap (m : Int) = (m : Int) := fun _ => by rw [IntKind.wrap_i64]; omega
            clear hy hdp
            by_cases h8 : 8 < m
            · have m8 : (8 : Int) < (m : Int) := by omega
              rw [if_pos h8] at hFF
              have hF : F = (4, 0, 0, 0, []) := by rw [← hFF]; rfl
              subst hF
              go_wp2_with (refine wpList_store_row rfl 77 (.tmp 2) (.tmp 35) rfl w.heap.size rfl [.int .u64 0, .int .u64 0, .int .u64 0, .slice none 0 0] rfl _ _ hRp (by exact size_pay) rfl (one_four _ _ _ _ rfl rfl rfl rfl) ?_)
              refine bodyPost_ret (results_row_tmp (p := 2) (u := 3) (ty := 77) (by rfl) _ _ w.heap.size 77 _ _ (by rfl) (by exact hRp.setRow _) Tryz.underlying77 (by rfl) (by exact size_pay)) (by rfl) ?_
              exact ⟨none, 0, 0, rfl, Lib.hid rfl, Nat.le_refl _, Rd.nil, below_setRow hbel (Nat.le_refl _) _⟩
            · rw [if_neg h8] at hFF
              have m8 : ¬ (8 : Int) < (m : Int) := by omega
              by_cases hs : S.length < m
              · rw [if_pos hs] at hFF
                have ms : (b.length : Int) - ((p : Int) + 1) < (m : Int) := by omega
                have hF : F = (2, 0, 0, 0, []) := by rw [← hFF]; rfl
                subst hF
                go_wp2_with (refine wpList_store_row rfl 77 (.tmp 2) (.tmp 42) rfl w.heap.size rfl [.int .u64 0, .int .u64 0, .int .u64 0, .slice none 0 0] rfl _ _ hRp (by exact size_pay) rfl (one_four _ _ _ _ rfl rfl rfl rfl) ?_)
                refine bodyPost_ret (results_row_tmp (p := 2) (u := 3) (ty := 77) (by rfl) _ _ w.heap.size 77 _ _ (by rfl) (by exact hRp.setRow _) Tryz.underlying77 (by rfl) (by exact size_pay)) (by rfl) ?_
                exact ⟨none, 0, 0, rfl, Lib.hid rfl, Nat.le_refl _, Rd.nil, below_setRow hbel (Nat.le_refl _) _⟩
              · rw [if_neg hs] at hFF
                have ms : ¬ (b.length : Int) - ((p : Int) + 1) < (m : Int) := by omega
                have hpq : (p : Int) + 1 = (q : Int) := by omega
                have q0 : (0 : Int) ≤ (q : Int) := by omega
                by_cases hm0 : m = 0
                · have hz3 : ¬ (0 < m ∧ S.head? = some (0 : UInt8)) := fun h => by omega
                  rw [if_neg hz3] at hFF
                  have m0 : ¬ (0 : Int) < (m : Int) := by omega
                  have m00 : decide ((0 : Int) < (m : Int)) = false := decide_eq_false m0
                  have HM0 := Lib.hid hm0
                  clear hm0
                  rw [if_pos rfl] at hFF
                  have hLl : (S.take m).length = m := by rw [List.length_take]; omega
                  have HNX0 : Hid (contF (3 - (i + 1)) (N ++ [valN (S.take m)]) (b.drop (q + m)) = F) := by unfold Hid; rw [show 3 - (i + 1) = 2 - i by omega, ← hdd m]; exact hFF
                  obtain ⟨V, hV⟩ : ∃ V, valN (S.take m) = V := ⟨_, rfl⟩
                  have hV64 : V < 18446744073709551616 := by rw [← hV]; exact valN_lt8 _ (by omega)
                  have HNX : Hid (contF (3 - (i + 1)) (N ++ [V]) (b.drop (q + m)) = F) := by rw [← hV]; exact HNX0
                  have hrd := hmid m
                  generalize S.take m = L at hLl hV hrd
                  have HLL := Lib.hid hLl
                  have HV := Lib.hid hV
                  have s1 : (q : Int) + (m : Int) ≤ (c : Int) := by omega
                  have s2 : q + m ≤ c := by omega
                  have hsx := hsl m s2
                  have hsz := hbel.size
                  clear hFF HNX0 hV hLl hmid hdd hhd hs hsl
                  clear hq hz3
                  go_wp2_with fail
                  refine (value_at L m A' (c - q) _ HLL hrd (by omega)).mono ?_
                  rintro ee w7 ⟨rfl, rfl⟩
                  rw [HV.out]
                  go_wp2_with (at_builtin; refine wpList_append_own _ rfl _ _ 212 rfl (w.heap.size + 1) 28 i0 (.int .u64 0) 1 8 Tryz.underlying212 hi hz0 hz1 hz2 rfl (by decide) _ _ _ rfl (hown.alloc _) ⟨wr.heap.size, 0, none⟩ 1 1 [.int .u64 (V : Int)] rfl rfl (cell_one_new _ _ _) (by intro u hu; simp at hu; subst hu; rfl) (by unfold maxLen; omega) (by omega) (by simp; omega) ?_; intro v' w8 hown' hgrow' _)
                  have hB8 : Below w.heap.size w w8 := (hbel.alloc hbel.size _).grown hgrow' (by simp; omega) (fun k hk => by have := (hown.lt k hk).1; omega)
                  have hR8 : Row w8 w.heap.size 77 [.int .u64 0, .int .u64 0, .int .u64 0, .slice none 0 0] := (hRp.alloc (.cells #[.int .u64 (V : Int)] 28)).grown hgrow' (fun e => by have := (hown.lt _ e).1; omega)
                  have HREL : Hid (RdR b F w (.int .i64 ((q : Int) + (m : Int))) v' (.int .i64 ((i : Int) + 1)) w8) := ⟨i + 1, q + m, N ++ [V], by omega, by rw [List.length_append, hNl]; rfl, by omega, by go_num, by go_num, HNX, by rw [List.map_append]; exact hown', hR8, hB8⟩
                  clear hown' hgrow' hown hbel hB8 hRp hR8
                  go_wp2_with fail
                  go_roundw
                  case rel => exact HREL.out
                  case measure => simp [intOf] <;> omega
                · have hq1 : q < b.length := by omega
                  obtain ⟨z, hz⟩ : ∃ z, b[q] = z := ⟨_, rfl⟩
                  have hcz : wr.cell? ⟨g, o + q, none⟩ = some (.int .u8 (z.toNat : Int)) := by rw [← hz]; exact (hbel.cell (p := ⟨g, o + q, none⟩) hg).trans (HCL.out q hq1)
                  have m0 : (0 : Int) < (m : Int) := by omega
                  have m00 : decide ((0 : Int) < (m : Int)) = true := decide_eq_true m0
                  have q1 : (q : Int) < (b.length : Int) := by omega
                  rw [hhd z (by rw [List.getElem?_eq_getElem hq1, hz])] at hFF
                  by_cases hz0' : z = 0
                  · have hz2 : 0 < m ∧ some z = some (0 : UInt8) := ⟨by omega, by rw [hz0']⟩
                    rw [if_pos hz2] at hFF
                    have hcz0 : wr.cell? ⟨g, o + q, none⟩ = some (.int .u8 0) := by rw [hcz, hz0']; rfl
                    clear hcz hq
                    have hF : F = (3, 0, 0, 0, []) := by rw [← hFF]; rfl
                    subst hF
                    go_wp2_with (refine wpList_store_row rfl 77 (.tmp 2) (.tmp 52) rfl w.heap.size rfl [.int .u64 0, .int .u64 0, .int .u64 0, .slice none 0 0] rfl _ _ hRp (by exact size_pay) rfl (one_four _ _ _ _ rfl rfl rfl rfl) ?_)
                    refine bodyPost_ret (results_row_tmp (p := 2) (u := 3) (ty := 77) (by rfl) _ _ w.heap.size 77 _ _ (by rfl) (by exact hRp.setRow _) Tryz.underlying77 (by rfl) (by exact size_pay)) (by rfl) ?_
                    exact ⟨none, 0, 0, rfl, Lib.hid rfl, Nat.le_refl _, Rd.nil, below_setRow hbel (Nat.le_refl _) _⟩
                  · have hz3 : ¬ (0 < m ∧ some z = some (0 : UInt8)) := fun h => hz0' (Option.some.inj h.2)
                    rw [if_neg hz3] at hFF
                    have t0 : z.toNat ≠ 0 := fun e => hz0' (UInt8.toNat_inj.1 e)
                    generalize z.toNat = t at hcz t0
                    have t1 : ((t : Int) == 0) = false := beq_eq_false_iff_ne.2 (by omega)
                    rw [if_pos rfl] at hFF
                    have hLl : (S.take m).length = m := by rw [List.length_take]; omega
                    have HNX0 : Hid (contF (3 - (i + 1)) (N ++ [valN (S.take m)]) (b.drop (q + m)) = F) := by unfold Hid; rw [show 3 - (i + 1) = 2 - i by omega, ← hdd m]; exact hFF
                    obtain ⟨V, hV⟩ : ∃ V, valN (S.take m) = V := ⟨_, rfl⟩
                    have hV64 : V < 18446744073709551616 := by rw [← hV]; exact valN_lt8 _ (by omega)
                    have HNX : Hid (contF (3 - (i + 1)) (N ++ [V]) (b.drop (q + m)) = F) := by rw [← hV]; exact HNX0
                    have hrd := hmid m
                    generalize S.take m = L at hLl hV hrd
                    have HLL := Lib.hid hLl
                    have HV := Lib.hid hV
                    have s1 : (q : Int) + (m : Int) ≤ (c : Int) := by omega
                    have s2 : q + m ≤ c := by omega
                    have hsx := hsl m s2
                    have hsz := hbel.size
                    clear hFF HNX0 hV hLl hmid hdd hhd hs hsl
                    clear hq hz3 hz
                    go_wp2_with fail
                    refine (value_at L m A' (c - q) _ HLL hrd (by omega)).mono ?_
                    rintro ee w7 ⟨rfl, rfl⟩
                    rw [HV.out]
                    go_wp2_with (at_builtin; refine wpList_append_own _ rfl _ _ 212 rfl (w.heap.size + 1) 28 i0 (.int .u64 0) 1 8 Tryz.underlying212 hi hz0 hz1 hz2 rfl (by decide) _ _ _ rfl (hown.alloc _) ⟨wr.heap.size, 0, none⟩ 1 1 [.int .u64 (V : Int)] rfl rfl (cell_one_new _ _ _) (by intro u hu; simp at hu; subst hu; rfl) (by unfold maxLen; omega) (by omega) (by simp; omega) ?_; intro v' w8 hown' hgrow' _)
                    have hB8 : Below w.heap.size w w8 := (hbel.alloc hbel.size _).grown hgrow' (by simp; omega) (fun k hk => by have := (hown.lt k hk).1; omega)
                    have hR8 : Row w8 w.heap.size 77 [.int .u64 0, .int .u64 0, .int .u64 0, .slice none 0 0] := (hRp.alloc (.cells #[.int .u64 (V : Int)] 28)).grown hgrow' (fun e => by have := (hown.lt _ e).1; omega)
                    have HREL : Hid (RdR b F w (.int .i64 ((q : Int) + (m : Int))) v' (.int .i64 ((i : Int) + 1)) w8) := ⟨i + 1, q + m, N ++ [V], by omega, by rw [List.length_append, hNl]; rfl, by omega, by go_num, by go_num, HNX, by rw [List.map_append]; exact hown', hR8, hB8⟩
                    clear hown' hgrow' hown hbel hB8 hRp hR8
                    go_wp2_with fail
                    go_roundw
                    case rel => exact HREL.out
                    case measure => simp [intOf] <;> omega
          · have hdp : b.drop p = [] := List.drop_of_length_le (by omega)
            rw [hdp] at hFF
            have p1 : ¬ (p : Int) < (b.length : Int) := by omega
            have p2 : (b.length : Int) ≤ (p : Int) := by omega
            have hF : F = (2, 0, 0, 0, []) := by rw [← hFF]; rfl
            subst hF
            go_wp2_with (refine wpList_store_row rfl 77 (.tmp 2) (.tmp 25) rfl w.heap.size rfl [.int .u64 0, .int .u64 0, .int .u64 0, .slice none 0 0] rfl _ _ hRp (by exact size_pay) rfl (one_four _ _ _ _ rfl rfl rfl rfl) ?_)
            refine bodyPost_ret (results_row_tmp (p := 2) (u := 3) (ty := 77) (by rfl) _ _ w.heap.size 77 _ _ (by rfl) (by exact hRp.setRow _) Tryz.underlying77 (by rfl) (by exact size_pay)) (by rfl) ?_
            exact ⟨none, 0, 0, rfl, Lib.hid rfl, Nat.le_refl _, Rd.nil, below_setRow hbel (Nat.le_refl _) _⟩
        · have ei : i = 3 := by omega
          subst ei
          have i1 : ¬ (3 : Int) < 3 := by omega
          have hSl : (b.drop p).length = b.length - p := List.length_drop
          have hFF : readT (N.getD 0 0) (N.getD 1 0) (N.getD 2 0) (b.drop p) = F := HF.out
          unfold readT at hFF
          have p0 : (0 : Int) ≤ (p : Int) := by omega
          have pl : (p : Int) ≤ (b.length : Int) := by omega
          by_cases h8 : b.length - p < 8
          · rw [if_pos (by omega)] at hFF
            have m8 : (b.length : Int) - (p : Int) < 8 := by omega
            have hF : F = (2, 0, 0, 0, []) := hFF.symm
            subst hF
            go_wp2_with (refine wpList_store_row rfl 77 (.tmp 2) (.tmp 71) rfl w.heap.size rfl [.int .u64 0, .int .u64 0, .int .u64 0, .slice none 0 0] rfl _ _ hRp (by exact size_pay) rfl (one_four _ _ _ _ rfl rfl rfl rfl) ?_)
            refine bodyPost_ret (results_row_tmp (p := 2) (u := 3) (ty := 77) (by rfl) _ _ w.heap.size 77 _ _ (by rfl) (by exact hRp.setRow _) Tryz.underlying77 (by rfl) (by exact size_pay)) (by rfl) ?_
            exact ⟨none, 0, 0, rfl, Lib.hid rfl, Nat.le_refl _, Rd.nil, below_setRow hbel (Nat.le_refl _) _⟩
          · rw [if_neg (by omega)] at hFF
            have m8 : ¬ (b.length : Int) - (p : Int) < 8 := by omega
            by_cases h9 : 8 < b.length - p
            · rw [if_pos (by omega)] at hFF
              have m9 : (8 : Int) < (b.length : Int) - (p : Int) := by omega
              have hF : F = (4, 0, 0, 0, []) := hFF.symm
              subst hF
              go_wp2_with (refine wpList_store_row rfl 77 (.tmp 2) (.tmp 77) rfl w.heap.size rfl [.int .u64 0, .int .u64 0, .int .u64 0, .slice none 0 0] rfl _ _ hRp (by exact size_pay) rfl (one_four _ _ _ _ rfl rfl rfl rfl) ?_)
              refine bodyPost_ret (results_row_tmp (p := 2) (u := 3) (ty := 77) (by rfl) _ _ w.heap.size 77 _ _ (by rfl) (by exact hRp.setRow _) Tryz.underlying77 (by rfl) (by exact size_pay)) (by rfl) ?_
              exact ⟨none, 0, 0, rfl, Lib.hid rfl, Nat.le_refl _, Rd.nil, below_setRow hbel (Nat.le_refl _) _⟩
            · rw [if_neg (by omega)] at hFF
              have m9 : ¬ (8 : Int) < (b.length : Int) - (p : Int) := by omega
              obtain ⟨t, e, d, rfl⟩ : ∃ t e d, N = [t, e, d] := by
                match N, hNl with
                | [t, e, d], _ => exact ⟨t, e, d, rfl⟩
              have hFF' : (0, t, e, d, b.drop p) = F := hFF
              have hol := hown.lt
              obtain ⟨Al, cl, rfl, hcl, hrl⟩ := own_slice (l := [t, e, d]) hown
              obtain ⟨gl, ol, rfl, hgl, hcl'⟩ := hrl.at (show 0 < [t, e, d].length by simp)
              have hglb := (hol gl rfl).1
              have k0 : wr.cell? ⟨gl, ol, none⟩ = some (.int .u64 (t : Int)) := hcl' 0 (by simp)
              have k1 : wr.cell? ⟨gl, ol + 1, none⟩ = some (.int .u64 (e : Int)) := hcl' 1 (by simp)
              have k2 : wr.cell? ⟨gl, ol + 2, none⟩ = some (.int .u64 (d : Int)) := hcl' 2 (by simp)
              obtain ⟨A', hsl, hcut⟩ := cut_from (P := Tryz.prog) 22 5 Tryz.underlying22 size_uint8 (some ⟨g, o, none⟩) b.length c p (by omega) (by omega)
              have hrd := hcut vB wr b rfl (hr.keep hbel)
              have hb8 : b.length - p = 8 := by omega
              rw [hb8] at hsl
              generalize b.drop p = S at hrd hFF' hSl
              subst hFF'
              have HS8 : Hid (S.length = 8) := by unfold Hid; omega
              clear hcut hcl' hrl hown hol hFF HF hSl h8 h9 hcl HCL hr
              go_upto_region 26 with fail
              have hS : threeP gl ol (.int .u64 (t : Int)) (.int .u64 (e : Int)) (.int .u64 (d : Int)) wr.drew := ⟨k0, k1, k2⟩
              have hRp' := hRp.drew
              have hrd' := hrd.keep (Below.refl wr.heap.size wr).drew
              have hbel' := hbel.drew
              have hgl' : gl < wr.drew.heap.size := hgl
              have hRp0 : w.heap.size < wr.drew.heap.size := hRp.lt
              refine wp_region_plan_of (threeP gl ol (.int .u64 (t : Int)) (.int .u64 (e : Int)) (.int .u64 (d : Int))) (.step 0 false (.step 1 false (.step 2 false (.step 3 false (.step 4 false (.step 5 false (.step 6 false (.step 7 false (.step 8 false (.step 10 false (.step 11 false (.step 12 false (.step 9 true (.step 13 true (.step 14 false (.step 15 true (.step 16 false (.nil)))))))))))))))))) hS (by kernel_rfl) (by kernel_rfl) (by rfl) (by kernel_rfl) ?_
              clear hRp hrd hbel k0 k1 k2 hgl
              generalize wr.drew = wv at *
              iterate 12 (refine plan_read rfl (by rfl) (v := ?_) ?_ ?_; rotate_left 1; (intro W hW; (try dsimp only at hW); obtain ⟨hW0, hW1⟩ := hW; go_simp <;> with_reducible rfl); simp only [List.getElem_toArray, List.getElem_cons_zero, List.getElem_cons_succ, Act.put, List.setIfInBounds_toArray, List.set_cons_zero, List.set_cons_succ])
              refine plan_make_of rfl (by rfl) (fun K hK => ?_)
              go_simp
              have hbn := below_new (Below.refl wv.heap.size wv) (.cells #[] 5)
              refine hK.out _ _ ⟨(hbn.cell (p := ⟨gl, ol, none⟩) hgl').trans hS.1, (hbn.cell (p := ⟨gl, ol + 1, none⟩) hgl').trans hS.2.1, (hbn.cell (p := ⟨gl, ol + 2, none⟩) hgl').trans hS.2.2⟩ ?_
              clear hK K
              have hown0 : (wv.alloc (.cells #[] 5)).ownsRow wv.heap.size 5 1 (.slice (some ⟨wv.heap.size, 0, none⟩) 0 0) 0 [] := World.ownsRow_made wv #[] 0 (Nat.le_refl _) (by unfold maxLen; omega) rfl
              refine plan_make_of rfl (by rfl) (fun K hK => ?_)
              refine wp_append_rd _ (.tmp 87) (.tmp 90) 22 rfl wv.heap.size 5 i8 (.int .u8 0) 1 Tryz.underlying22 hi8 hy0 hy1 hy2 rfl _ _ _ rfl hown0 A' S (c - p) (by rw [HS8.out]; rfl) (hrd'.keep hbn) vB_one (by rw [HS8.out]; unfold maxLen; omega) (by rw [HS8.out]; omega) (by simp) ?_
              intro v7 w7 hown7 hgrow7
              have hb7 : Below wv.heap.size wv w7 := hbn.grown hgrow7 (by simp) (fun k hk => (hown0.lt k hk).1)
              have hS7 : threeP gl ol (.int .u64 (t : Int)) (.int .u64 (e : Int)) (.int .u64 (d : Int)) w7 := ⟨(hb7.cell (p := ⟨gl, ol, none⟩) hgl').trans hS.1, (hb7.cell (p := ⟨gl, ol + 1, none⟩) hgl').trans hS.2.1, (hb7.cell (p := ⟨gl, ol + 2, none⟩) hgl').trans hS.2.2⟩
              refine hK.out _ _ hS7 ?_
              clear hK K
              rw [Nat.zero_add, List.nil_append] at hown7
              obtain ⟨A7, c7, rfl, hc7, hr7⟩ := own_slice hown7
              rw [HS8.out] at hc7 ⊢
              have hA7 := hown7.lt
              have hR7 := hRp'.later hb7
              have hB7 := below_step hbel' hb7
              simp only [List.getElem_toArray, List.getElem_cons_zero, List.getElem_cons_succ, Act.put, List.setIfInBounds_toArray, List.set_cons_zero, List.set_cons_succ]
              clear hown0 hown7 hgrow7 hbn hrd' hRp' hbel'
              iterate 1 (refine plan_read rfl (by rfl) (v := ?_) ?_ ?_; rotate_left 1; (intro W hW; (try dsimp only at hW); obtain ⟨hW0, hW1⟩ := hW; go_simp <;> with_reducible rfl); simp only [List.getElem_toArray, List.getElem_cons_zero, List.getElem_cons_succ, Act.put, List.setIfInBounds_toArray, List.set_cons_zero, List.set_cons_succ])
              have hne : ∀ q : Nat, (⟨gl, q, none⟩ : Addr).block ≠ w.heap.size := fun q => by show gl ≠ w.heap.size; omega
              have hcs : ∀ (q : Nat) (cs : Array Value), (w7.setRow w.heap.size cs).cell? ⟨gl, q, none⟩ = w7.cell? ⟨gl, q, none⟩ := fun q cs => cell_setRow_other w7 w.heap.size cs ⟨gl, q, none⟩ (hne q)
              refine plan_make_of rfl (by rfl) (fun K hK => ?_)
              refine hR7.wp_store 77 (.tmp 2) (.tmp 92) rfl rfl [.int .u64 (t : Int), .int .u64 (e : Int), .int .u64 (d : Int), .slice A7 8 c7] rfl (by exact size_pay) rfl (one_four _ _ _ _ rfl rfl rfl rfl) ?_
              refine hK.out _ _ ⟨(hcs ol _).trans hS7.1, (hcs (ol + 1) _).trans hS7.2.1, (hcs (ol + 2) _).trans hS7.2.2⟩ ?_
              clear hK K hcs hne
              simp only [List.getElem_toArray, List.getElem_cons_zero, List.getElem_cons_succ, Act.put, List.setIfInBounds_toArray, List.set_cons_zero, List.set_cons_succ]
              iterate 1 (refine plan_read rfl (by rfl) (v := ?_) ?_ ?_; rotate_left 1; (intro W hW; (try dsimp only at hW); obtain ⟨hW0, hW1⟩ := hW; go_simp <;> with_reducible rfl); simp only [List.getElem_toArray, List.getElem_cons_zero, List.getElem_cons_succ, Act.put, List.setIfInBounds_toArray, List.set_cons_zero, List.set_cons_succ])
              refine plan_done ?_
              clear hS hS7
              go_wp2_with fail
              refine bodyPost_ret (results_row_tmp (p := 2) (u := 3) (ty := 77) (by rfl) _ _ w.heap.size 77 _ _ (by rfl) (by exact hR7.setRow _) Tryz.underlying77 (by rfl) (by exact size_pay)) (by rfl) ?_
              have hbl7 : w.heap.size < wv.heap.size := hRp0
              exact ⟨A7, 8, c7, rfl, HS8, hc7, hr7.setRow _ (fun a ha => by have := (hA7 a.block (by rw [ha]; rfl)).1; omega), below_setRow hB7 (Nat.le_refl _) _⟩
    · have hF3 : F = (3, 0, 0, 0, []) := by rw [hrF, if_pos h87]
      have hx2 : x.toNat ≠ 87 := fun e => h87 (UInt8.toNat_inj.1 e)
      have hx3 : ((x.toNat : Int) == 87) = false := beq_eq_false_iff_ne.2 (by omega)
      have hx4 : ((x.toNat : Int) != 87) = true := by rw [bne, hx3]; rfl
      generalize x.toNat = xn at hx0 hx2 hx3 hx4
      clear hrF hdr hcell h87
      have hF : F = (3, 0, 0, 0, []) := hF3
      subst hF
      go_wp2_with (refine wpList_store_row rfl 77 (.tmp 2) (.tmp 16) rfl w.heap.size rfl [.int .u64 0, .int .u64 0, .int .u64 0, .slice none 0 0] rfl _ _ hR0 (by exact size_pay) rfl (one_four _ _ _ _ rfl rfl rfl rfl) ?_)
      refine bodyPost_ret (results_row_tmp (p := 2) (u := 3) (ty := 77) (by rfl) _ _ w.heap.size 77 _ _ (by rfl) (by exact hR0.setRow _) Tryz.underlying77 (by rfl) (by exact size_pay)) (by rfl) ?_
      exact ⟨none, 0, 0, rfl, Lib.hid rfl, Nat.le_refl _, Rd.nil, below_setRow hB0 (Nat.le_refl _) _⟩
end Go.Proofs.YteppocjgodmpdaaGreatDoor
/-
  What the program's package reader does (landed code): its calls, one by one; the numbers of eight bytes. No conditions but those typed.
-/
namespace Go.Proofs.YteppocjgodmpdaaGreatDoor
set_option maxRecDepth 100000
open Go.RowKit
set_option linter.unusedSimpArgs false
set_option linter.unusedVariables false

theorem lt_ne {S : List UInt8} {A : Option Addr} {g : Nat} (h : S ≠ [] → ∀ a, A = some a → a.block < g) : S ≠ [] → ∀ a, A = some a → a.block ≠ g := fun h1 a ha => Nat.ne_of_lt (h h1 a ha)
/-- The reader's block: what is left, and what was wrong. -/
def RdS (g : Nat) (S : List UInt8) (n : Nat) (k : Int) (w : World) : Prop := ∃ A c, Row w g 220 [.slice A n c, .int .i64 k] ∧ Hid (S.length = n) ∧ n ≤ c ∧ Rd vB w A S ∧ (S ≠ [] → ∀ a, A = some a → a.block < g)

theorem cut_fromB {P : Program} (t e : TypeId) (ht : P.underlying t = some (.slice e)) (hz : ∀ w, (sizeOf e).run P w = .ok 1 w) (A : Option Addr) (n cap k : Nat) (hk : k ≤ n) (hc : n ≤ cap) :
    ∃ A', (∀ w, (Instr.slice t (.slice A n cap) (some (.int .i64 (k : Int))) none none).run P w = .ok (.slice A' (n - k) (cap - k)) w) ∧
      (∀ {α : Type} (f : α → Value) (w : World) (l : List α), l.length = n → Rd f w A l → Rd f w A' (l.drop k)) ∧ (∀ a', A' = some a' → ∃ a, A = some a ∧ a'.block = a.block) := by
  have ht' : P.underlying t = some (.slice (P.elem t)) := by simp [Program.elem, ht]
  have he : P.elem t = e := by simp [Program.elem, ht]
  refine ⟨if cap = k then A else A.map (·.add (k * 1)), fun w => ?_, fun f w l hl h => h.drop k cap (by omega), fun a' h => ?_⟩
  · rw [run_slice_l w t A n cap ht' .i64 (k : Int) (by omega) (by omega), he, hz]
    simp [sliced]
  · split at h
    · exact ⟨a', h, rfl⟩
    · cases A with
      | none => cases h
      | some a =>
        injection h with h
        subst h
        exact ⟨a, rfl, by show (a.add (k * 1)).block = a.block; simp [Addr.add] <;> (try split) <;> rfl⟩
/-! ### keep -/
theorem keep_bad (g : Nat) (v : Value) (k e : Int) (w : World) (hR : Row w g 220 [v, .int .i64 k]) (hk : k ≠ 0) :
    Calls Tryz.prog 207 #[.pointer (some ⟨g, 0, none⟩), .int .i64 e] w fun e₁ w' => e₁ = .returned (.tuple #[]) ∧ w = w' := by
  have c1 : w.cell? ⟨g, 1, none⟩ = some (.int .i64 k) := hR.cell rfl
  have k1 : (k == 0) = false := beq_eq_false_iff_ne.2 hk
  go_enter Tryz.func207, Tryz.ntmps207
  go_wp2_with fail
  first | go_end0 | refine bodyPost_ret (results_none rfl _ _ _) rfl ?_
  exact ⟨rfl, rfl⟩
theorem keep_ok (g : Nat) (v : Value) (e : Int) (w : World) (hR : Row w g 220 [v, .int .i64 0]) :
    Calls Tryz.prog 207 #[.pointer (some ⟨g, 0, none⟩), .int .i64 e] w fun e₁ w' => e₁ = .returned (.tuple #[]) ∧ Row w' g 220 [v, .int .i64 e] ∧ Only g w w' := by
  have c1 : w.cell? ⟨g, 1, none⟩ = some (.int .i64 0) := hR.cell rfl
  have f1 := hR.frozen 1
  go_enter Tryz.func207, Tryz.ntmps207
  go_wp2_with fail
  first | go_end0 | refine bodyPost_ret (results_none rfl _ _ _) rfl ?_
  exact ⟨rfl, hR.setCell 1 _, (Only.refl g w).setCell 1 _⟩

/-! ### next -/
theorem next_bad (g n : Nat) (A : Option Addr) (c : Nat) (k : Int) (m : Int) (w : World) (hR : Row w g 220 [.slice A n c, .int .i64 k]) (hk : k ≠ 0) :
    Calls Tryz.prog 141 #[.pointer (some ⟨g, 0, none⟩), .int .i64 m] w fun e₁ w' => e₁ = .returned (.slice none 0 0) ∧ w = w' := by
  have c0 : w.cell? ⟨g, 0, none⟩ = some (.slice A n c) := hR.cell rfl
  have c1 : w.cell? ⟨g, 1, none⟩ = some (.int .i64 k) := hR.cell rfl
  have k1 : (k == 0) = false := beq_eq_false_iff_ne.2 hk
  have k2 : (k != 0) = true := by rw [bne, k1]; rfl
  by_cases h : (n : Int) < m
  · go_enter Tryz.func141, Tryz.ntmps141
    go_wp2_with fail
    refine (keep_bad g _ k 2 w hR hk).mono ?_
    rintro e₁ w1 ⟨rfl, rfl⟩
    go_wp2_with fail
    go_ret
    exact ⟨rfl, rfl⟩
  · go_enter Tryz.func141, Tryz.ntmps141
    go_wp2_with fail
    go_ret
    exact ⟨rfl, rfl⟩
theorem next_short (g : Nat) (S : List UInt8) (n m : Nat) (w : World) (h : RdS g S n 0 w) (hm : n < m) :
    Calls Tryz.prog 141 #[.pointer (some ⟨g, 0, none⟩), .int .i64 (m : Int)] w fun e₁ w' => e₁ = .returned (.slice none 0 0) ∧ RdS g S n 2 w' ∧ Only g w w' := by
  obtain ⟨A, c, hR, HN, hc, hr, hA⟩ := h
  have c0 : w.cell? ⟨g, 0, none⟩ = some (.slice A n c) := hR.cell rfl
  have i1 : (n : Int) < (m : Int) := by omega
  go_enter Tryz.func141, Tryz.ntmps141
  go_wp2_with fail
  refine (keep_ok g _ 2 w hR).mono ?_
  rintro e₁ w1 ⟨rfl, hR1, hO⟩
  have hr1 := hr.only hO (lt_ne hA)
  have c0 : w1.cell? ⟨g, 0, none⟩ = some (.slice A n c) := hR1.cell rfl
  have c1 : w1.cell? ⟨g, 1, none⟩ = some (.int .i64 2) := hR1.cell rfl
  go_wp2_with fail
  go_ret
  exact ⟨rfl, ⟨A, c, hR1, HN, hc, hr1, hA⟩, hO⟩
theorem next_ok (g : Nat) (S : List UInt8) (n m : Nat) (w : World) (h : RdS g S n 0 w) (hm : m ≤ n) (hn : n ≤ 1000000) :
    Calls Tryz.prog 141 #[.pointer (some ⟨g, 0, none⟩), .int .i64 (m : Int)] w fun e₁ w' => ∃ A c, e₁ = .returned (.slice A m c) ∧ m ≤ c ∧ Rd vB w' A (S.take m) ∧ RdS g (S.drop m) (n - m) 0 w' ∧ Only g w w' := by
  obtain ⟨A, c, hR, HN, hc, hr, hA⟩ := h
  have c0 : w.cell? ⟨g, 0, none⟩ = some (.slice A n c) := hR.cell rfl
  have c1 : w.cell? ⟨g, 1, none⟩ = some (.int .i64 0) := hR.cell rfl
  have f0 := hR.frozen 0
  have i1 : ¬ (n : Int) < (m : Int) := by omega
  have i0 : (0 : Int) ≤ (m : Int) := by omega
  have i2 : (m : Int) ≤ (c : Int) := by omega
  have hmc : m ≤ c := by omega
  obtain ⟨A', hsl, hcut, hA'⟩ := cut_fromB (P := Tryz.prog) 22 5 Tryz.underlying22 size_uint8 A n c m (by omega) (by omega)
  have hto := run_cut_to (P := Tryz.prog) 22 5 Tryz.underlying22 size_uint8 A n c m (by omega)
  have hO := (Only.refl g w).setCell 0 (.slice A' (n - m) (c - m))
  have hR' := hR.setCell 0 (.slice A' (n - m) (c - m))
  have hr1 := hcut vB w S HN.out hr
  have hr2 := hr.take m
  have hne : ∀ j, S.drop j ≠ [] → S ≠ [] := fun j h e => h (by rw [e, List.drop_nil])
  have hnt : ∀ j, S.take j ≠ [] → S ≠ [] := fun j h e => h (by rw [e, List.take_nil])
  have hX : RdS g (S.drop m) (n - m) 0 (w.setCell ⟨g, 0, none⟩ (.slice A' (n - m) (c - m))) := by
    refine ⟨A', c - m, hR', by unfold Hid; rw [List.length_drop, HN.out], by omega, hr1.only hO ?_, ?_⟩
    · intro h a' ha'
      obtain ⟨a, ha, e⟩ := hA' a' ha'
      rw [e]
      exact Nat.ne_of_lt (hA (hne m h) a ha)
    · intro h a' ha'
      obtain ⟨a, ha, e⟩ := hA' a' ha'
      rw [e]
      exact hA (hne m h) a ha
  have hY : Rd vB (w.setCell ⟨g, 0, none⟩ (.slice A' (n - m) (c - m))) A (S.take m) := hr2.only hO (fun h a ha => Nat.ne_of_lt (hA (hnt m h) a ha))
  have HX := Lib.hid (And.intro hX (And.intro hY hO))
  clear hX hY hO hR' hr1 hr2 hne hnt hA' hcut hr hA hR
  go_enter Tryz.func141, Tryz.ntmps141
  go_wp2_with fail
  go_ret
  exact ⟨A, c, rfl, hmc, HX.out.2.1, HX.out.1, HX.out.2.2⟩

/-! ### one -/
theorem one_bad (g n : Nat) (A : Option Addr) (c : Nat) (k : Int) (w : World) (hR : Row w g 220 [.slice A n c, .int .i64 k]) (hk : k ≠ 0) :
    Calls Tryz.prog 206 #[.pointer (some ⟨g, 0, none⟩)] w fun e₁ w' => e₁ = .returned (.int .u8 0) ∧ w = w' := by
  go_enter Tryz.func206, Tryz.ntmps206
  go_wp2_with fail
  refine (next_bad g n A c k 1 w hR hk).mono ?_
  rintro e₁ w1 ⟨rfl, rfl⟩
  go_wp2_with fail
  go_ret
  exact ⟨rfl, rfl⟩
theorem one_short (g : Nat) (w : World) (h : RdS g [] 0 0 w) :
    Calls Tryz.prog 206 #[.pointer (some ⟨g, 0, none⟩)] w fun e₁ w' => e₁ = .returned (.int .u8 0) ∧ RdS g [] 0 2 w' ∧ Only g w w' := by
  go_enter Tryz.func206, Tryz.ntmps206
  go_wp2_with fail
  refine (next_short g [] 0 1 w h (by omega)).mono ?_
  rintro e₁ w1 ⟨rfl, h1, h2⟩
  go_wp2_with fail
  go_ret
  exact ⟨rfl, h1, h2⟩
theorem one_ok (g : Nat) (x : UInt8) (r : List UInt8) (n : Nat) (w : World) (h : RdS g (x :: r) n 0 w) (hn : n ≤ 1000000) :
    Calls Tryz.prog 206 #[.pointer (some ⟨g, 0, none⟩)] w fun e₁ w' => e₁ = .returned (.int .u8 (x.toNat : Int)) ∧ RdS g r (n - 1) 0 w' ∧ Only g w w' := by
  have hn1 : 1 ≤ n := by
    obtain ⟨_, _, _, HN, _⟩ := h
    have := HN.out
    rw [List.length_cons] at this
    omega
  go_enter Tryz.func206, Tryz.ntmps206
  go_wp2_with fail
  refine (next_ok g (x :: r) n 1 w h hn1 hn).mono ?_
  rintro e₁ w1 ⟨A, c, rfl, hmc, hr, h1, h2⟩
  have hr' : Rd vB w1 A [x] := hr
  have h1' : RdS g r (n - 1) 0 w1 := h1
  obtain ⟨b, o, rfl, hb, hc⟩ := hr'.at (show 0 < [x].length by simp)
  have hc0 : w1.cell? ⟨b, o, none⟩ = some (.int .u8 (x.toNat : Int)) := hc 0 (by simp)
  clear hr hc h1 hr'
  go_wp2_with fail
  go_ret
  exact ⟨rfl, h1', h2⟩

/-! ### mark -/
/-- What is wrong, and what is left: if nothing is wrong. -/
def RdRF (g : Nat) (k : Int) (S : List UInt8) (w : World) : Prop := ∃ S' n, RdS g S' n k w ∧ n ≤ 1000000 ∧ (k = 0 → S' = S)
theorem RdRF.below {g : Nat} {k : Int} {S : List UInt8} {w w' : World} (h : RdRF g k S w) (hb : Below (g + 1) w w') : RdRF g k S w' := by
  obtain ⟨S', n, ⟨A, c, hR, HN, hc, hr, hA⟩, hn, h2⟩ := h
  refine ⟨S', n, ⟨A, c, hR.keep hb (by omega), HN, hc, fun hne => ?_, hA⟩, hn, h2⟩
  obtain ⟨b, o, rfl, hcell⟩ := hr hne
  have hlt := hA hne _ rfl
  refine ⟨b, o, rfl, fun i hi => ?_⟩
  rw [← hcell i hi]
  exact hb.cell (p := ⟨b, o + i, none⟩) (show b < g + 1 by exact Nat.lt_succ_of_lt hlt)
theorem RdRF.lt {g : Nat} {k : Int} {S : List UInt8} {w : World} (h : RdRF g k S w) : g < w.heap.size := by
  obtain ⟨S', n, ⟨A, c, hR, _⟩, _⟩ := h
  exact hR.lt
/-- Behind a mark: what is wrong, what is left. -/
def markK (M : UInt8) : List UInt8 → Int × List UInt8
  | [] => (2, [])
  | x :: r => if x ≠ M then (3, []) else (0, r)
theorem mark_any (M : UInt8) (m : Nat) (hM : M.toNat = m) (h0 : m ≠ 0) (g : Nat) (b : List UInt8) (n : Nat) (w : World) (h : RdS g b n 0 w) (hn : n ≤ 1000000) :
    Calls Tryz.prog 139 #[.pointer (some ⟨g, 0, none⟩), .int .u8 (m : Int)] w fun e₁ w' => e₁ = .returned (.tuple #[]) ∧ RdRF g (markK M b).1 (markK M b).2 w' ∧ Only g w w' := by
  cases b with
  | nil =>
    have en : n = 0 := by
      obtain ⟨_, _, _, HN, _⟩ := h
      exact HN.out.symm
    subst en
    have z1 : ((0 : Int) == (m : Int)) = false := beq_eq_false_iff_ne.2 (by omega)
    have z2 : ((0 : Int) != (m : Int)) = true := by rw [bne, z1]; rfl
    go_enter Tryz.func139, Tryz.ntmps139
    go_wp2_with fail
    refine (one_short g w h).mono ?_
    rintro e₁ w1 ⟨rfl, h1, h2⟩
    go_wp2_with fail
    obtain ⟨A, c, hR, _⟩ := id h1
    refine (keep_bad g _ 2 3 w1 hR (by decide)).mono ?_
    rintro e₁ w2 ⟨rfl, rfl⟩
    go_wp2_with fail
    first | go_end0 | refine bodyPost_ret (results_none rfl _ _ _) rfl ?_
    exact ⟨rfl, ⟨[], 0, h1, by omega, fun h => absurd (show (2 : Int) = 0 from h) (by decide)⟩, h2⟩
  | cons x r =>
    by_cases hx : x = M
    · have HM : Hid (markK M (x :: r) = (0, r)) := if_neg (not_not_intro hx)
      have hO := Lib.hid (one_ok g x r n w h hn)
      rw [HM.out]
      have hxm : x.toNat = m := by rw [hx]; exact hM
      rw [hxm] at hO
      clear HM hxm hx hM h
      go_enter Tryz.func139, Tryz.ntmps139
      go_wp2_with fail
      refine hO.out.mono ?_
      rintro e₁ w1 ⟨rfl, h1, h2⟩
      go_wp2_with fail
      first | go_end0 | refine bodyPost_ret (results_none rfl _ _ _) rfl ?_
      exact ⟨rfl, ⟨r, n - 1, h1, by omega, fun _ => rfl⟩, h2⟩
    · have HM : Hid (markK M (x :: r) = (3, [])) := if_pos hx
      have hx2 : x.toNat ≠ m := fun e => hx (UInt8.toNat_inj.1 (e.trans hM.symm))
      have hO := Lib.hid (one_ok g x r n w h hn)
      rw [HM.out]
      generalize x.toNat = q at hx2 hO
      have hx3 : ((q : Int) == (m : Int)) = false := beq_eq_false_iff_ne.2 (by omega)
      have hx4 : ((q : Int) != (m : Int)) = true := by rw [bne, hx3]; rfl
      clear HM hx hM h hx2
      go_enter Tryz.func139, Tryz.ntmps139
      go_wp2_with fail
      refine hO.out.mono ?_
      rintro e₁ w1 ⟨rfl, h1, h2⟩
      obtain ⟨A, c, hR, HN, hc, hr, hA⟩ := id h1
      go_wp2_with fail
      refine (keep_ok g _ 3 w1 hR).mono ?_
      rintro e₁ w2 ⟨rfl, hR2, h3⟩
      go_wp2_with fail
      first | go_end0 | refine bodyPost_ret (results_none rfl _ _ _) rfl ?_
      exact ⟨rfl, ⟨r, n - 1, ⟨A, c, hR2, HN, hc, hr.only h3 (lt_ne hA), hA⟩, by omega, fun h => absurd h (by decide)⟩, h2.trans h3⟩

/-! ### Keep, One, Next, Number, whatever is wrong -/
def keepK (k e : Int) : Int := if k = 0 then e else k
/-- Keep: what is wrong stays; what is left, too. -/
theorem keep_any (g : Nat) (k e : Int) (S : List UInt8) (w : World) (h : RdRF g k S w) :
    Calls Tryz.prog 207 #[.pointer (some ⟨g, 0, none⟩), .int .i64 e] w fun e₁ w' => e₁ = .returned (.tuple #[]) ∧ RdRF g (keepK k e) S w' ∧ Only g w w' := by
  obtain ⟨S', n, h1, hn, h2⟩ := h
  unfold keepK
  by_cases hk : k = 0
  · rw [if_pos hk]
    have e' := h2 hk
    subst e' hk
    obtain ⟨A, c, hR, HN, hc, hr, hA⟩ := h1
    refine (keep_ok g _ e w hR).mono ?_
    rintro e₁ w2 ⟨rfl, hR2, h3⟩
    exact ⟨rfl, ⟨S', n, ⟨A, c, hR2, HN, hc, hr.only h3 (lt_ne hA), hA⟩, hn, fun _ => rfl⟩, h3⟩
  · rw [if_neg hk]
    obtain ⟨A, c, hR, _⟩ := id h1
    refine (keep_bad g _ k e w hR hk).mono ?_
    rintro e₁ w' ⟨rfl, rfl⟩
    exact ⟨rfl, ⟨S', n, h1, hn, fun h => absurd h hk⟩, Only.refl g w⟩
/-- One: the byte, what is wrong, what is left. -/
def oneK (k : Int) (S : List UInt8) : Nat × Int × List UInt8 := if k = 0 then (match S with | [] => (0, 2, []) | x :: r => (x.toNat, 0, r)) else (0, k, [])
theorem oneK_lt (k : Int) (S : List UInt8) : (oneK k S).1 < 256 := by
  unfold oneK
  split
  · split
    · show 0 < 256; omega
    · exact UInt8.toNat_lt _
  · show 0 < 256; omega
theorem one_any (g : Nat) (k : Int) (S : List UInt8) (w : World) (h : RdRF g k S w) :
    Calls Tryz.prog 206 #[.pointer (some ⟨g, 0, none⟩)] w fun e₁ w' => e₁ = .returned (.int .u8 ((oneK k S).1 : Int)) ∧ RdRF g (oneK k S).2.1 (oneK k S).2.2 w' ∧ Only g w w' := by
  obtain ⟨S', n, h1, hn, h2⟩ := h
  unfold oneK
  by_cases hk : k = 0
  · rw [if_pos hk]
    have e' := h2 hk
    subst e' hk
    cases S' with
    | nil =>
      have en : n = 0 := by
        obtain ⟨_, _, _, HN, _⟩ := h1
        exact HN.out.symm
      subst en
      refine (one_short g w h1).mono ?_
      rintro e₁ w1 ⟨rfl, h3, h4⟩
      exact ⟨rfl, ⟨[], 0, h3, by omega, fun h => absurd h (by decide)⟩, h4⟩
    | cons x r =>
      refine (one_ok g x r n w h1 hn).mono ?_
      rintro e₁ w1 ⟨rfl, h3, h4⟩
      exact ⟨rfl, ⟨r, n - 1, h3, by omega, fun _ => rfl⟩, h4⟩
  · rw [if_neg hk]
    obtain ⟨A, c, hR, _⟩ := id h1
    refine (one_bad g n A c k w hR hk).mono ?_
    rintro e₁ w' ⟨rfl, rfl⟩
    exact ⟨rfl, ⟨S', n, h1, hn, fun h => absurd h hk⟩, Only.refl g w⟩
/-- Next: the bytes, what is wrong, what is left. -/
def nextK (m : Nat) (k : Int) (S : List UInt8) : List UInt8 × Int × List UInt8 := if k = 0 then (if S.length < m then ([], 2, []) else (S.take m, 0, S.drop m)) else ([], k, [])
theorem next_any (g m : Nat) (k : Int) (S : List UInt8) (w : World) (h : RdRF g k S w) :
    Calls Tryz.prog 141 #[.pointer (some ⟨g, 0, none⟩), .int .i64 (m : Int)] w fun e₁ w' => ∃ A q c, e₁ = .returned (.slice A q c) ∧ Hid ((nextK m k S).1.length = q) ∧ q ≤ m ∧ q ≤ c ∧ Rd vB w' A (nextK m k S).1 ∧ RdRF g (nextK m k S).2.1 (nextK m k S).2.2 w' ∧ Only g w w' := by
  obtain ⟨S', n, h1, hn, h2⟩ := h
  unfold nextK
  by_cases hk : k = 0
  · rw [if_pos hk]
    have e' := h2 hk
    subst e' hk
    have hl : S'.length = n := by
      obtain ⟨_, _, _, HN, _⟩ := h1
      exact HN.out
    by_cases hm : S'.length < m
    · rw [if_pos hm]
      refine (next_short g S' n m w h1 (by omega)).mono ?_
      rintro e₁ w1 ⟨rfl, h3, h4⟩
      exact ⟨none, 0, 0, rfl, Lib.hid rfl, Nat.zero_le _, Nat.le_refl _, Rd.nil, ⟨S', n, h3, hn, fun h => absurd h (by decide)⟩, h4⟩
    · rw [if_neg hm]
      have hcap : ∃ c0 A0, Row w g 220 [.slice A0 n c0, .int .i64 0] ∧ n ≤ c0 := by
        obtain ⟨A0, c0, hR, _, hc, _⟩ := h1
        exact ⟨c0, A0, hR, hc⟩
      refine (next_ok g S' n m w h1 (by omega) hn).mono ?_
      rintro e₁ w1 ⟨A, c, rfl, hc1, h5, h3, h4⟩
      exact ⟨A, m, c, rfl, Lib.hid (by rw [List.length_take]; omega), Nat.le_refl _, hc1, h5, ⟨_, n - m, h3, by omega, fun _ => rfl⟩, h4⟩
  · rw [if_neg hk]
    obtain ⟨A, c, hR, _⟩ := id h1
    refine (next_bad g n A c k m w hR hk).mono ?_
    rintro e₁ w' ⟨rfl, rfl⟩
    exact ⟨none, 0, 0, rfl, Lib.hid rfl, Nat.zero_le _, Nat.le_refl _, Rd.nil, ⟨S', n, h1, hn, fun h => absurd h hk⟩, Only.refl g w⟩
/-- Number: eight bytes. -/
def num8K (k : Int) (S : List UInt8) : Nat × Int × List UInt8 := if k = 0 then (if S.length < 8 then (0, 2, []) else (valN (S.take 8), 0, S.drop 8)) else (0, k, [])
theorem num8_next (k : Int) (S : List UInt8) : num8K k S = ((getR (nextK 8 k S).1).1, (nextK 8 k S).2.1, (nextK 8 k S).2.2) := by
  unfold num8K nextK
  split
  · split
    · rfl
    · unfold getR
      rw [if_pos (by rw [List.length_take]; omega)]
  · rfl
theorem getR_at (l : List UInt8) (n : Nat) (A : Option Addr) (cap : Nat) (w : World) (HN : Hid (l.length = n)) (hr : Rd vB w A l) (hl : n ≤ 1000000) :
    Calls Tryz.prog 249 #[.slice A n cap] w fun e w' => e = .returned (.tuple #[.int .u64 ((getR l).1 : Int), .int .i64 (getR l).2]) ∧ w = w' := by
  have e := HN.out
  subst e
  exact get_any l A cap w hr (by omega)
theorem number8_any (g : Nat) (k : Int) (S : List UInt8) (w : World) (h : RdRF g k S w) :
    Calls Tryz.prog 215 #[.pointer (some ⟨g, 0, none⟩)] w fun e₁ w' => e₁ = .returned (.int .u64 ((num8K k S).1 : Int)) ∧ RdRF g (num8K k S).2.1 (num8K k S).2.2 w' ∧ Only g w w' := by
  rw [num8_next]
  have hN := Lib.hid (next_any g 8 k S w h)
  generalize nextK 8 k S = X at hN ⊢
  obtain ⟨L, k', S'⟩ := X
  dsimp only at hN ⊢
  clear h
  go_enter Tryz.func215, Tryz.ntmps215
  go_wp2_with fail
  refine hN.out.mono ?_
  rintro e₁ w1 ⟨A, q, c, rfl, HL, hq, hqc, hr, h3, h4⟩
  go_wp2_with fail
  refine (getR_at L q A c w1 HL hr (by omega)).mono ?_
  rintro e₁ w2 ⟨rfl, rfl⟩
  go_wp2_with fail
  go_ret
  exact ⟨rfl, h3, h4⟩
/-- Nothing may be left. -/
def endK (k : Int) (S : List UInt8) : Int := if k = 0 ∧ S ≠ [] then 4 else k
/-! ### End -/
theorem endF_any (g : Nat) (k : Int) (S : List UInt8) (w : World) (h : RdRF g k S w) :
    Calls Tryz.prog 142 #[.pointer (some ⟨g, 0, none⟩)] w fun e₁ w' => e₁ = .returned (.tuple #[]) ∧ (∃ v, Row w' g 220 [v, .int .i64 (endK k S)]) ∧ Only g w w' := by
  obtain ⟨S', n, h1, hn, h2⟩ := h
  obtain ⟨A, c, hR, HN, hc, hr, hA⟩ := h1
  have c0 : w.cell? ⟨g, 0, none⟩ = some (.slice A n c) := hR.cell rfl
  by_cases h0 : n = 0
  · have hE : endK k S = k := by
      unfold endK
      rw [if_neg]
      rintro ⟨h3, h4⟩
      rw [← h2 h3] at h4
      exact h4 (List.eq_nil_of_length_eq_zero (HN.out.trans h0))
    rw [hE]
    have i0 : ¬ (0 : Int) < (n : Int) := by omega
    clear h0
    go_enter Tryz.func142, Tryz.ntmps142
    go_wp2_with fail
    first | go_end0 | refine bodyPost_ret (results_none rfl _ _ _) rfl ?_
    exact ⟨rfl, ⟨_, hR⟩, Only.refl g w⟩
  · have i0 : (0 : Int) < (n : Int) := by omega
    by_cases hk : k = 0
    · subst hk
      have hE : endK 0 S = 4 := by
        unfold endK
        rw [if_pos]
        refine ⟨rfl, fun h4 => h0 ?_⟩
        rw [← HN.out, h2 rfl, h4]
        rfl
      rw [hE]
      clear h0
      go_enter Tryz.func142, Tryz.ntmps142
      go_wp2_with fail
      refine (keep_ok g _ 4 w hR).mono ?_
      rintro e₁ w1 ⟨rfl, hR1, h3⟩
      go_wp2_with fail
      first | go_end0 | refine bodyPost_ret (results_none rfl _ _ _) rfl ?_
      exact ⟨rfl, ⟨_, hR1⟩, h3⟩
    · have hE : endK k S = k := if_neg (fun h => hk h.1)
      rw [hE]
      clear h0
      go_enter Tryz.func142, Tryz.ntmps142
      go_wp2_with fail
      refine (keep_bad g _ k 4 w hR hk).mono ?_
      rintro e₁ w1 ⟨rfl, rfl⟩
      go_wp2_with fail
      first | go_end0 | refine bodyPost_ret (results_none rfl _ _ _) rfl ?_
      exact ⟨rfl, ⟨_, hR⟩, Only.refl g w⟩
end Go.Proofs.YteppocjgodmpdaaGreatDoor
/-
  What the program's Read of layer 12 does with its reader (landed code): its calls, one by one. No conditions but those typed.
-/
namespace Go.Proofs.YteppocjgodmpdaaGreatDoor
set_option maxRecDepth 100000
open Go.RowKit
set_option linter.unusedSimpArgs false
set_option linter.unusedVariables false

/-! ### number -/
def nK (k : Int) (S : List UInt8) : Int × Nat × List UInt8 := if k = 0 then readN S else (k, 0, [])
theorem from_at (l : List UInt8) (n : Nat) (A : Option Addr) (cap : Nat) (w : World) (HN : Hid (l.length = n)) (hr : Rd vB w A l) (hl : n ≤ 9223372036854775807) (v : Nat) (k : Int) (HF : Hid (fromR l = (v, k))) :
    Calls Tryz.prog 208 #[.slice A n cap] w fun e w' => e = .returned (.tuple #[.int .u64 (v : Int), .int .i64 k]) ∧ w = w' := by
  have e := HN.out
  subst e
  have := from_any l A cap w hr hl
  rw [HF.out] at this
  exact this
theorem number_bad (g n : Nat) (A : Option Addr) (c : Nat) (k : Int) (w : World) (hR : Row w g 220 [.slice A n c, .int .i64 k]) (hk : k ≠ 0) :
    Calls Tryz.prog 140 #[.pointer (some ⟨g, 0, none⟩)] w fun e₁ w' => e₁ = .returned (.int .u64 0) ∧ w = w' := by
  go_enter Tryz.func140, Tryz.ntmps140
  go_wp2_with fail
  refine (one_bad g n A c k w hR hk).mono ?_
  rintro e₁ w1 ⟨rfl, rfl⟩
  go_wp2_with fail
  refine (next_bad g n A c k 0 w hR hk).mono ?_
  rintro e₁ w1 ⟨rfl, rfl⟩
  go_wp2_with fail
  refine (from_at [] 0 none 0 w (Lib.hid rfl) Rd.nil (by omega) 0 0 (Lib.hid rfl)).mono ?_
  rintro e₁ w1 ⟨rfl, rfl⟩
  go_wp2_with fail
  refine (keep_bad g _ k 0 w hR hk).mono ?_
  rintro e₁ w1 ⟨rfl, rfl⟩
  go_wp2_with fail
  go_ret
  exact ⟨rfl, rfl⟩
theorem number_empty (g : Nat) (w : World) (h : RdS g [] 0 0 w) :
    Calls Tryz.prog 140 #[.pointer (some ⟨g, 0, none⟩)] w fun e₁ w' => e₁ = .returned (.int .u64 0) ∧ RdS g [] 0 2 w' ∧ Only g w w' := by
  go_enter Tryz.func140, Tryz.ntmps140
  go_wp2_with fail
  refine (one_short g w h).mono ?_
  rintro e₁ w1 ⟨rfl, h1, h2⟩
  obtain ⟨A, c, hR, _⟩ := id h1
  go_wp2_with fail
  refine (next_bad g 0 A c 2 0 w1 hR (by decide)).mono ?_
  rintro e₁ w2 ⟨rfl, rfl⟩
  go_wp2_with fail
  refine (from_at [] 0 none 0 w1 (Lib.hid rfl) Rd.nil (by omega) 0 0 (Lib.hid rfl)).mono ?_
  rintro e₁ w2 ⟨rfl, rfl⟩
  go_wp2_with fail
  refine (keep_bad g _ 2 0 w1 hR (by decide)).mono ?_
  rintro e₁ w2 ⟨rfl, rfl⟩
  go_wp2_with fail
  go_ret
  exact ⟨rfl, h1, h2⟩
theorem number_long (g : Nat) (y : UInt8) (r : List UInt8) (n : Nat) (w : World) (h : RdS g (y :: r) n 0 w) (hn : n ≤ 1000000) (h8 : 8 < y.toNat) :
    Calls Tryz.prog 140 #[.pointer (some ⟨g, 0, none⟩)] w fun e₁ w' => e₁ = .returned (.int .u64 0) ∧ RdS g r (n - 1) 4 w' ∧ Only g w w' := by
  have hO := Lib.hid (one_ok g y r n w h hn)
  have hy := y.toNat_lt
  generalize y.toNat = m at h8 hO hy
  have m8 : (8 : Int) < (m : Int) := by omega
  have mw : IntKind.i64.wrap (m : Int) = (m : Int) := by rw [IntKind.wrap_i64]; omega
  go_enter Tryz.func140, Tryz.ntmps140
  go_wp2_with fail
  refine hO.out.mono ?_
  rintro e₁ w1 ⟨rfl, h1, h2⟩
  obtain ⟨A, c, hR, HN, hc, hr, hA⟩ := id h1
  go_wp2_with fail
  refine (keep_ok g _ 4 w1 hR).mono ?_
  rintro e₁ w2 ⟨rfl, hR2, h3⟩
  have h4 : RdS g r (n - 1) 4 w2 := ⟨A, c, hR2, HN, hc, hr.only h3 (lt_ne hA), hA⟩
  go_wp2_with fail
  refine (next_bad g _ A c 4 (m : Int) w2 hR2 (by decide)).mono ?_
  rintro e₁ w3 ⟨rfl, rfl⟩
  go_wp2_with fail
  refine (from_at [] 0 none 0 w2 (Lib.hid rfl) Rd.nil (by omega) 0 0 (Lib.hid rfl)).mono ?_
  rintro e₁ w3 ⟨rfl, rfl⟩
  go_wp2_with fail
  refine (keep_bad g _ 4 0 w2 hR2 (by decide)).mono ?_
  rintro e₁ w3 ⟨rfl, rfl⟩
  go_wp2_with fail
  go_ret
  exact ⟨rfl, h4, h2.trans h3⟩
theorem number_short (g : Nat) (y : UInt8) (r : List UInt8) (n : Nat) (w : World) (h : RdS g (y :: r) n 0 w) (hn : n ≤ 1000000) (h8 : ¬ 8 < y.toNat) (hs : n - 1 < y.toNat) :
    Calls Tryz.prog 140 #[.pointer (some ⟨g, 0, none⟩)] w fun e₁ w' => e₁ = .returned (.int .u64 0) ∧ RdS g r (n - 1) 2 w' ∧ Only g w w' := by
  have hO := Lib.hid (one_ok g y r n w h hn)
  have hy := y.toNat_lt
  generalize y.toNat = m at h8 hs hO hy
  have m8 : ¬ (8 : Int) < (m : Int) := by omega
  have mw : IntKind.i64.wrap (m : Int) = (m : Int) := by rw [IntKind.wrap_i64]; omega
  go_enter Tryz.func140, Tryz.ntmps140
  go_wp2_with fail
  refine hO.out.mono ?_
  rintro e₁ w1 ⟨rfl, h1, h2⟩
  go_wp2_with fail
  refine (next_short g r (n - 1) m w1 h1 hs).mono ?_
  rintro e₁ w2 ⟨rfl, h4, h3⟩
  obtain ⟨A, c, hR2, _⟩ := id h4
  go_wp2_with fail
  refine (from_at [] 0 none 0 w2 (Lib.hid rfl) Rd.nil (by omega) 0 0 (Lib.hid rfl)).mono ?_
  rintro e₁ w3 ⟨rfl, rfl⟩
  go_wp2_with fail
  refine (keep_bad g _ 2 0 w2 hR2 (by decide)).mono ?_
  rintro e₁ w3 ⟨rfl, rfl⟩
  go_wp2_with fail
  go_ret
  exact ⟨rfl, h4, h2.trans h3⟩
theorem number_ok (g : Nat) (y : UInt8) (r : List UInt8) (n : Nat) (w : World) (h : RdS g (y :: r) n 0 w) (hn : n ≤ 1000000) (h8 : ¬ 8 < y.toNat) (hs : ¬ n - 1 < y.toNat) (v : Nat) (k : Int) (HF : Hid (fromR (r.take y.toNat) = (v, k))) :
    Calls Tryz.prog 140 #[.pointer (some ⟨g, 0, none⟩)] w fun e₁ w' => e₁ = .returned (.int .u64 (v : Int)) ∧ RdS g (r.drop y.toNat) (n - 1 - y.toNat) k w' ∧ Only g w w' := by
  have hO := Lib.hid (one_ok g y r n w h hn)
  have hrl : r.length = n - 1 := by
    obtain ⟨_, _, _, HN, _⟩ := h
    have := HN.out
    rw [List.length_cons] at this
    omega
  have hy := y.toNat_lt
  generalize y.toNat = m at h8 hs hO hy HF ⊢
  have m8 : ¬ (8 : Int) < (m : Int) := by omega
  have mw : IntKind.i64.wrap (m : Int) = (m : Int) := by rw [IntKind.wrap_i64]; omega
  have HL : Hid ((r.take m).length = m) := by unfold Hid; rw [List.length_take]; omega
  clear hrl
  go_enter Tryz.func140, Tryz.ntmps140
  go_wp2_with fail
  refine hO.out.mono ?_
  rintro e₁ w1 ⟨rfl, h1, h2⟩
  go_wp2_with fail
  refine (next_ok g r (n - 1) m w1 h1 (by omega) (by omega)).mono ?_
  rintro e₁ w2 ⟨A2, c2, rfl, _, hr2, h4, h3⟩
  obtain ⟨A, c, hR2, HN, hc, hr, hA⟩ := id h4
  go_wp2_with fail
  refine (from_at (r.take m) m A2 c2 w2 HL hr2 (by omega) v k HF).mono ?_
  rintro e₁ w3 ⟨rfl, rfl⟩
  go_wp2_with fail
  refine (keep_ok g _ k w2 hR2).mono ?_
  rintro e₁ w3 ⟨rfl, hR3, h5⟩
  have h6 : RdS g (r.drop m) (n - 1 - m) k w3 := ⟨A, c, hR3, HN, hc, hr.only h5 (lt_ne hA), hA⟩
  go_wp2_with fail
  go_ret
  exact ⟨rfl, h6, (h2.trans h3).trans h5⟩
theorem number_any (g : Nat) (k : Int) (S : List UInt8) (w : World) (h : RdRF g k S w) :
    Calls Tryz.prog 140 #[.pointer (some ⟨g, 0, none⟩)] w fun e₁ w' => e₁ = .returned (.int .u64 ((nK k S).2.1 : Int)) ∧ RdRF g (nK k S).1 (nK k S).2.2 w' ∧ Only g w w' := by
  obtain ⟨S', n, h1, hn, h2⟩ := h
  unfold nK
  by_cases hk : k = 0
  · rw [if_pos hk]
    have e := h2 hk
    subst e hk
    cases S' with
    | nil =>
      have en : n = 0 := by
        obtain ⟨_, _, _, HN, _⟩ := h1
        exact HN.out.symm
      subst en
      refine (number_empty g w h1).mono ?_
      rintro e₁ w' ⟨rfl, h3, h4⟩
      exact ⟨rfl, ⟨[], 0, h3, by omega, fun h => absurd h (by decide)⟩, h4⟩
    | cons y r =>
      have hrl : r.length = n - 1 := by
        obtain ⟨_, _, _, HN, _⟩ := h1
        have := HN.out
        rw [List.length_cons] at this
        omega
      rw [readN_cons]
      by_cases h8 : 8 < y.toNat
      · rw [if_pos h8]
        refine (number_long g y r n w h1 hn h8).mono ?_
        rintro e₁ w' ⟨rfl, h3, h4⟩
        exact ⟨rfl, ⟨r, n - 1, h3, by omega, fun h => absurd h (by decide)⟩, h4⟩
      · rw [if_neg h8]
        by_cases hs : r.length < y.toNat
        · rw [if_pos hs]
          refine (number_short g y r n w h1 hn h8 (by omega)).mono ?_
          rintro e₁ w' ⟨rfl, h3, h4⟩
          exact ⟨rfl, ⟨r, n - 1, h3, by omega, fun h => absurd h (by decide)⟩, h4⟩
        · rw [if_neg hs]
          have hl8 : ¬ 8 < (r.take y.toNat).length := by rw [List.length_take]; omega
          by_cases h0 : 0 < y.toNat ∧ r.head? = some 0
          · rw [if_pos h0]
            have hf : fromR (r.take y.toNat) = (0, 3) := by
              unfold fromR
              rw [if_neg hl8, if_pos (by rw [List.head?_take, if_neg (by omega)]; exact h0.2)]
            refine (number_ok g y r n w h1 hn h8 (by omega) 0 3 hf).mono ?_
            rintro e₁ w' ⟨rfl, h3, h4⟩
            exact ⟨rfl, ⟨_, _, h3, by omega, fun h => absurd h (by decide)⟩, h4⟩
          · rw [if_neg h0]
            have hf : fromR (r.take y.toNat) = (valN (r.take y.toNat), 0) := by
              unfold fromR
              rw [if_neg hl8, if_neg]
              intro hh
              rcases Nat.eq_zero_or_pos y.toNat with hz | hp
              · rw [hz, List.take_zero] at hh
                simp at hh
              · rw [List.head?_take, if_neg (by omega)] at hh
                exact h0 ⟨hp, hh⟩
            refine (number_ok g y r n w h1 hn h8 (by omega) _ 0 hf).mono ?_
            rintro e₁ w' ⟨rfl, h3, h4⟩
            exact ⟨rfl, ⟨_, _, h3, by omega, fun _ => rfl⟩, h4⟩
  · rw [if_neg hk]
    obtain ⟨A, c, hR, _⟩ := id h1
    refine (number_bad g n A c k w hR hk).mono ?_
    rintro e₁ w' ⟨rfl, rfl⟩
    exact ⟨rfl, ⟨S', n, h1, hn, fun h => absurd h hk⟩, Only.refl g w⟩

/-! ### the Tag's bytes -/
def tagK (k : Int) (S : List UInt8) : Int × List UInt8 := if k = 0 then if S.length < 8 then (2, []) else (0, S.take 8) else (k, [])
theorem tag_any (g : Nat) (k : Int) (S : List UInt8) (w : World) (h : RdRF g k S w) :
    Calls Tryz.prog 141 #[.pointer (some ⟨g, 0, none⟩), .int .i64 8] w fun e₁ w' => (∃ A n c, e₁ = .returned (.slice A n c) ∧ Hid ((tagK k S).2.length = n) ∧ n ≤ 8 ∧ Rd vB w' A (tagK k S).2) ∧ RdRF g (tagK k S).1 (S.drop 8) w' ∧ Only g w w' := by
  obtain ⟨S', n, h1, hn, h2⟩ := h
  unfold tagK
  by_cases hk : k = 0
  · have e := h2 hk
    subst e hk
    rw [if_pos rfl]
    obtain ⟨A, c, hR, HN, hc, hr, hA⟩ := id h1
    by_cases h8 : n < 8
    · rw [if_pos (by rw [HN.out]; exact h8)]
      refine (next_short g S' n 8 w h1 h8).mono ?_
      rintro e₁ w1 ⟨rfl, h3, h4⟩
      exact ⟨⟨none, 0, 0, rfl, Lib.hid rfl, by omega, Rd.nil⟩, ⟨S', n, h3, hn, fun h => absurd h (by decide)⟩, h4⟩
    · rw [if_neg (by rw [HN.out]; exact h8)]
      refine (next_ok g S' n 8 w h1 (by omega) hn).mono ?_
      rintro e₁ w1 ⟨A1, c1, rfl, _, hr1, h3, h4⟩
      exact ⟨⟨A1, 8, c1, rfl, by unfold Hid; rw [List.length_take, HN.out]; omega, by omega, hr1⟩, ⟨_, _, h3, by omega, fun _ => rfl⟩, h4⟩
  · rw [if_neg hk]
    obtain ⟨A, c, hR, _⟩ := id h1
    refine (next_bad g n A c k 8 w hR hk).mono ?_
    rintro e₁ w' ⟨rfl, rfl⟩
    exact ⟨⟨none, 0, 0, rfl, Lib.hid rfl, by omega, Rd.nil⟩, ⟨S', n, h1, hn, fun h => absurd h hk⟩, Only.refl g w⟩

/-! ### the whole -/
theorem endK_bad {k : Int} (S : List UInt8) (h : k ≠ 0) : endK k S = k := if_neg (fun e => h e.1)
theorem nK_bad {k : Int} (S : List UInt8) (h : k ≠ 0) : nK k S = (k, 0, []) := if_neg h
theorem tagK_bad {k : Int} (S : List UInt8) (h : k ≠ 0) : tagK k S = (k, []) := if_neg h
/-- Step by step it is readF: its code; and all of it, where nothing is wrong. -/
theorem steps_read {b : List UInt8} {k0 k1 k2 k3 k4 : Int} {S0 S1 S2 S3 T : List UInt8} {t e c : Nat} (h0 : markK 87 b = (k0, S0)) (h1 : nK k0 S0 = (k1, t, S1)) (h2 : nK k1 S1 = (k2, e, S2)) (h3 : nK k2 S2 = (k3, c, S3)) (h4 : tagK k3 S3 = (k4, T)) :
    readF b = if endK k4 (S3.drop 8) = 0 then (0, t, e, c, T) else (endK k4 (S3.drop 8), 0, 0, 0, []) := by
  have bad : ∀ {k : Int} {S : List UInt8}, k ≠ 0 → (if endK k S = 0 then ((0 : Int), t, e, c, T) else (endK k S, 0, 0, 0, [])) = (k, 0, 0, 0, []) := fun {k S} h => by rw [endK_bad S h, if_neg h]
  have b4 : k3 ≠ 0 → k4 = k3 := fun h => by rw [tagK_bad _ h] at h4; exact (congrArg Prod.fst h4).symm
  have b3 : k2 ≠ 0 → k3 = k2 := fun h => by rw [nK_bad _ h] at h3; exact (congrArg Prod.fst h3).symm
  have b2 : k1 ≠ 0 → k2 = k1 := fun h => by rw [nK_bad _ h] at h2; exact (congrArg Prod.fst h2).symm
  have b1 : k0 ≠ 0 → k1 = k0 := fun h => by rw [nK_bad _ h] at h1; exact (congrArg Prod.fst h1).symm
  by_cases z0 : k0 = 0
  · subst z0
    cases b with
    | nil => simp [markK] at h0
    | cons x r =>
      have e0 : x = 87 ∧ r = S0 := by
        unfold markK at h0
        dsimp only at h0
        split at h0
        · simp at h0
        · rename_i hx
          exact ⟨Classical.byContradiction hx, congrArg Prod.snd h0⟩
      obtain ⟨rfl, rfl⟩ := e0
      rw [readF_cons, if_neg (by simp)]
      unfold nK at h1
      rw [if_pos rfl] at h1
      unfold readB
      rw [h1]
      by_cases z1 : k1 = 0
      · subst z1
        rw [if_pos rfl]
        unfold nK at h2
        rw [if_pos rfl] at h2
        unfold readE
        dsimp only
        rw [h2]
        by_cases z2 : k2 = 0
        · subst z2
          rw [if_pos rfl]
          unfold nK at h3
          rw [if_pos rfl] at h3
          unfold readC
          dsimp only
          rw [h3]
          by_cases z3 : k3 = 0
          · subst z3
            rw [if_pos rfl]
            unfold tagK at h4
            rw [if_pos rfl] at h4
            unfold readT
            dsimp only
            by_cases h8 : S3.length < 8
            · rw [if_pos h8] at h4 ⊢
              have ek : k4 = 2 := (congrArg Prod.fst h4).symm
              rw [ek, bad (by decide)]
            · rw [if_neg h8] at h4 ⊢
              have ek : k4 = 0 := (congrArg Prod.fst h4).symm
              have eT : T = S3.take 8 := (congrArg Prod.snd h4).symm
              rw [ek, eT]
              by_cases h9 : 8 < S3.length
              · rw [if_pos h9]
                have hE : endK 0 (S3.drop 8) = 4 := if_pos ⟨rfl, fun h => by have := congrArg List.length h; rw [List.length_drop, List.length_nil] at this; omega⟩
                rw [hE, if_neg (by decide)]
              · rw [if_neg h9]
                have hE : endK 0 (S3.drop 8) = 0 := if_neg (fun h => h.2 (List.drop_of_length_le (by omega)))
                rw [hE, if_pos rfl, List.take_of_length_le (by omega)]
          · rw [if_neg z3]
            rw [b4 z3, bad z3]
        · rw [if_neg z2]
          have e3 := b3 z2
          rw [b4 (by rw [e3]; exact z2), e3, bad z2]
      · rw [if_neg z1]
        have e2 := b2 z1
        have e3 := b3 (by rw [e2]; exact z1)
        rw [e2] at e3
        rw [b4 (by rw [e3]; exact z1), e3, bad z1]
  · have e1 := b1 z0
    have e2 := b2 (by rw [e1]; exact z0)
    rw [e1] at e2
    have e3 := b3 (by rw [e2]; exact z0)
    rw [e2] at e3
    rw [b4 (by rw [e3]; exact z0), e3, bad z0]
    cases b with
    | nil =>
      have e : (2 : Int) = k0 := congrArg Prod.fst h0
      rw [← e]
      rfl
    | cons x r =>
      rw [readF_cons]
      unfold markK at h0
      dsimp only at h0
      split at h0
      · rename_i hx
        rw [if_pos hx]
        have e : (3 : Int) = k0 := congrArg Prod.fst h0
        rw [← e]
      · exact absurd (congrArg Prod.fst h0).symm z0
end Go.Proofs.YteppocjgodmpdaaGreatDoor
/-
  What the program's calls of layer 12 answer, over the landed code (rightP_any, writeP_ok, writeP_no, msgP_any: XFrameWr). No conditions but those typed.
-/
namespace Go.Proofs.YteppocjgodmpdaaGreatDoor
set_option maxRecDepth 100000
open Go.RowKit
set_option linter.unusedSimpArgs false
set_option linter.unusedVariables false

theorem size_rd : (Tryz.prog.info? 220).map (·.size) = some 2 := by kernel_rfl
theorem one_twoF (a b : Value) (ha : a.oneCell' = true) (hb : b.oneCell' = true) : ∀ v ∈ [a, b], v.oneCell' = true := fun v hv => by
  simp at hv
  rcases hv with rfl | rfl <;> assumption
theorem cloneF (n : Nat) (b : List UInt8) (A : Option Addr) (c : Nat) (w : World) (HN : Hid (b.length = n)) (hr : Rd vB w A b) (hl : n ≤ 70368744177664) :
    Calls Tryz.prog 112 #[.slice A n c] w fun e w' => ∃ A' c', e = .returned (.slice A' n c') ∧ n ≤ c' ∧ Rd vB w' A' b ∧ (∀ a, A' = some a → w.heap.size ≤ a.block) ∧ Below w.heap.size w w' := by
  have e := HN.out
  subst e
  exact (clone_b b A c w hr hl).mono fun _ _ h => h
def codeP (g : Nat) (k : Int) (W : World) : Prop := W.cell? ⟨g, 1, none⟩ = some (.int .i64 k) ∧ True

set_option maxRecDepth 100000 in
set_option maxHeartbeats 4000000 in
theorem readP_any (b : List UInt8) (n : Nat) (A : Option Addr) (c : Nat) (w : World) (HN : Hid (b.length = n)) (hr : Rd vB w A b) (hc : n ≤ c) (hn : n ≤ 100000) :
    Calls Tryz.prog 77 #[.slice A n c] w (RetPay w (readF b)) := by
  obtain ⟨k0, S0, H0⟩ : ∃ k S, markK 87 b = (k, S) := ⟨_, _, rfl⟩
  obtain ⟨k1, x1, S1, H1⟩ : ∃ k x S, nK k0 S0 = (k, x, S) := ⟨_, _, _, rfl⟩
  obtain ⟨k2, x2, S2, H2⟩ : ∃ k x S, nK k1 S1 = (k, x, S) := ⟨_, _, _, rfl⟩
  obtain ⟨k3, x3, S3, H3⟩ : ∃ k x S, nK k2 S2 = (k, x, S) := ⟨_, _, _, rfl⟩
  obtain ⟨k4, T, H4⟩ : ∃ k S, tagK k3 S3 = (k, S) := ⟨_, _, rfl⟩
  have HF := steps_read H0 H1 H2 H3 H4
  obtain ⟨k5, H5⟩ : ∃ k, endK k4 (S3.drop 8) = k := ⟨_, rfl⟩
  rw [H5] at HF
  obtain ⟨F, hF⟩ : ∃ F, readF b = F := ⟨_, rfl⟩
  rw [hF] at HF ⊢
  clear hF
  replace HF := Lib.hid HF
  replace H0 := Lib.hid H0
  replace H1 := Lib.hid H1
  replace H2 := Lib.hid H2
  replace H3 := Lib.hid H3
  replace H4 := Lib.hid H4
  replace H5 := Lib.hid H5
  obtain ⟨hR0, hB0⟩ := box_pay w 77 (.int .u64 0) (.int .u64 0) (.int .u64 0) (.slice none 0 0)
  go_enter Tryz.func77, Tryz.ntmps77
  go_upto_region 1 with fail
  generalize (w.alloc (.cells #[.int .u64 0, .int .u64 0, .int .u64 0, .slice none 0 0] 77)) = W0 at hR0 hB0 ⊢
  have hgl := hR0.lt
  have hRs : Row (W0.alloc (.cells #[.slice A n c, .int .i64 0] 220)) W0.heap.size 220 [.slice A n c, .int .i64 0] := Row.new W0 _ _ _ rfl
  have hb2 := below_new (Below.refl W0.heap.size W0) (.cells #[.slice A n c, .int .i64 0] 220)
  go_upto_region 2 with fail
  replace hr := (hr.keep hB0)
  have hA : b ≠ [] → ∀ a, A = some a → a.block < W0.heap.size := hr.off
  replace hr := hr.keep hb2
  replace hR0 := hR0.later hb2
  replace hB0 := below_step hB0 hb2
  generalize (W0.alloc (.cells #[.slice A n c, .int .i64 0] 220)) = W1 at hr hR0 hRs hB0 ⊢
  clear hb2
  generalize W0.heap.size = g1 at hgl hRs hA ⊢
  have hS : RdS g1 b n 0 W1 := ⟨A, c, hRs, HN, hc, hr, hA⟩
  have hg1 := hRs.lt
  clear hRs hr hA
  have hle : w.heap.size ≤ g1 := by omega
  have hne : w.heap.size ≠ g1 := by omega
  have hRq : Row (W1.alloc (.cells #[.int .u64 0, .int .u64 0, .int .u64 0, .slice none 0 0] 77)) W1.heap.size 77 [.int .u64 0, .int .u64 0, .int .u64 0, .slice none 0 0] := Row.new W1 _ _ _ rfl
  have hbn := below_new (Below.refl W1.heap.size W1) (.cells #[.int .u64 0, .int .u64 0, .int .u64 0, .slice none 0 0] 77)
  have hS1 : RdS g1 b n 0 (W1.alloc (.cells #[.int .u64 0, .int .u64 0, .int .u64 0, .slice none 0 0] 77)) := by
    obtain ⟨A', c', h1, h2, h3, h4, h5⟩ := hS
    exact ⟨A', c', h1.later hbn, h2, h3, h4.keep hbn, h5⟩
  replace hR0 := hR0.later hbn
  replace hB0 := below_step hB0 hbn
  go_upto_region 3 with fail
  generalize W1.alloc (.cells #[.int .u64 0, .int .u64 0, .int .u64 0, .slice none 0 0] 77) = W2 at hS1 hR0 hB0 hRq ⊢
  clear hbn hS
  generalize W1.heap.size = g2 at hg1 hRq ⊢
  have hn2 : g2 ≠ g1 := by omega
  have hn3 : g2 ≠ w.heap.size := by omega
  have hn4 : w.heap.size ≠ g2 := by omega
  have hl2 : w.heap.size ≤ g2 := by omega
  go_wp2_with fail
  refine (mark_any 87 87 rfl (by decide) g1 b n W2 hS1 (by omega)).mono ?_
  rw [H0.out]
  rintro e₁ W3 ⟨rfl, hT, hO⟩
  dsimp only at hT
  replace hR0 := hR0.only hO hne
  replace hRq := hRq.only hO hn2
  replace hB0 := hB0.trans (hO.below.mono hle)
  clear hO hS1
  go_wp2_with fail
  refine (number_any g1 k0 S0 W3 hT).mono ?_
  rw [H1.out]
  rintro e₁ w4 ⟨rfl, hT4, hO⟩
  dsimp only at hT4 ⊢
  replace hR0 := hR0.only hO hne
  replace hRq := hRq.only hO hn2
  replace hB0 := hB0.trans (hO.below.mono hle)
  clear hO hT
  have f0 := hRq.frozen 0
  have hT5 := hT4.below ((Below.refl _ w4).setCell (p := ⟨g2, 0, none⟩) (show g1 + 1 ≤ g2 by omega) (.int .u64 (x1 : Int)))
  have hR5 := hR0.setCell_other (p := ⟨g2, 0, none⟩) hn4 (.int .u64 (x1 : Int))
  have hRq5 := hRq.setCell 0 (.int .u64 (x1 : Int))
  have hB5 := hB0.setCell (p := ⟨g2, 0, none⟩) hl2 (.int .u64 (x1 : Int))
  have c0 : w4.cell? ⟨g2, 0, none⟩ = some (.int .u64 0) := hRq.cell rfl
  clear hT4 hR0 hRq hB0
  have hQ5 : Row (w4.setCell ⟨g2, 0, none⟩ (.int .u64 (x1 : Int))) g2 77 [.int .u64 (x1 : Int), .int .u64 0, .int .u64 0, .slice none 0 0] := hRq5
  go_upto_region 5 with fail
  generalize w4.setCell ⟨g2, 0, none⟩ (.int .u64 (x1 : Int)) = W5 at hT5 hR5 hQ5 hB5 ⊢
  clear hRq5 c0 f0
  go_wp2_with fail
  refine (number_any g1 k1 S1 W5 hT5).mono ?_
  rw [H2.out]
  rintro e₁ w6 ⟨rfl, hT6, hO⟩
  dsimp only at hT6 ⊢
  have hR6 := hR5.only hO hne
  have hQ6 := hQ5.only hO hn2
  have hB6 := hB5.trans (hO.below.mono hle)
  clear hO hT5 hR5 hQ5 hB5
  have f0 := hQ6.frozen 1
  have hT7 := hT6.below ((Below.refl _ w6).setCell (p := ⟨g2, 1, none⟩) (show g1 + 1 ≤ g2 by omega) (.int .u64 (x2 : Int)))
  have hR7 := hR6.setCell_other (p := ⟨g2, 1, none⟩) hn4 (.int .u64 (x2 : Int))
  have hQ7 : Row (w6.setCell ⟨g2, 1, none⟩ (.int .u64 (x2 : Int))) g2 77 [.int .u64 (x1 : Int), .int .u64 (x2 : Int), .int .u64 0, .slice none 0 0] := hQ6.setCell 1 (.int .u64 (x2 : Int))
  have hB7 := hB6.setCell (p := ⟨g2, 1, none⟩) hl2 (.int .u64 (x2 : Int))
  have c0 : w6.cell? ⟨g2, 1, none⟩ = some (.int .u64 0) := hQ6.cell rfl
  clear hT6 hR6 hQ6 hB6
  go_upto_region 6 with fail
  generalize w6.setCell ⟨g2, 1, none⟩ (.int .u64 (x2 : Int)) = W7 at hT7 hR7 hQ7 hB7 ⊢
  clear c0 f0
  go_wp2_with fail
  refine (number_any g1 k2 S2 W7 hT7).mono ?_
  rw [H3.out]
  rintro e₁ w8 ⟨rfl, hT8, hO⟩
  dsimp only at hT8 ⊢
  have hR8 := hR7.only hO hne
  have hQ8 := hQ7.only hO hn2
  have hB8 := hB7.trans (hO.below.mono hle)
  clear hO hT7 hR7 hQ7 hB7
  have f0 := hQ8.frozen 2
  have hT9 := hT8.below ((Below.refl _ w8).setCell (p := ⟨g2, 2, none⟩) (show g1 + 1 ≤ g2 by omega) (.int .u64 (x3 : Int)))
  have hR9 := hR8.setCell_other (p := ⟨g2, 2, none⟩) hn4 (.int .u64 (x3 : Int))
  have hQ9 : Row (w8.setCell ⟨g2, 2, none⟩ (.int .u64 (x3 : Int))) g2 77 [.int .u64 (x1 : Int), .int .u64 (x2 : Int), .int .u64 (x3 : Int), .slice none 0 0] := hQ8.setCell 2 (.int .u64 (x3 : Int))
  have hB9 := hB8.setCell (p := ⟨g2, 2, none⟩) hl2 (.int .u64 (x3 : Int))
  have c0 : w8.cell? ⟨g2, 2, none⟩ = some (.int .u64 0) := hQ8.cell rfl
  clear hT8 hR8 hQ8 hB8
  go_upto_region 7 with fail
  generalize w8.setCell ⟨g2, 2, none⟩ (.int .u64 (x3 : Int)) = W9 at hT9 hR9 hQ9 hB9 ⊢
  clear c0 f0
  go_wp2_with fail
  refine (tag_any g1 k3 S3 W9 hT9).mono ?_
  rw [H4.out]
  rintro e₁ w10 ⟨⟨A10, n10, c10, rfl, HN10, hn10, hr10⟩, hT10, hO⟩
  dsimp only at hT10 HN10 hr10 ⊢
  have hR10 := hR9.only hO hne
  have hQ10 := hQ9.only hO hn2
  have hB10 := hB9.trans (hO.below.mono hle)
  have hg10 := hQ10.lt
  clear hO hT9 hR9 hQ9 hB9
  go_wp2_with fail
  refine (cloneF n10 T A10 c10 w10 HN10 hr10 (by omega)).mono ?_
  rintro e₁ w11 ⟨A11, c11, rfl, hc11, hr11, hA11, hb⟩
  have hT11 := hT10.below (hb.mono (by omega))
  have hR11 := hR10.later hb
  have hQ11 := hQ10.later hb
  have hB11 := below_step hB10 hb
  have HA11 : Hid (∀ a, A11 = some a → g2 < a.block) := fun a ha => Nat.lt_of_lt_of_le hg10 (hA11 a ha)
  clear hb hT10 hR10 hQ10 hB10 hr10 hA11
  have f0 := hQ11.frozen 3
  have hT12 := hT11.below ((Below.refl _ w11).setCell (p := ⟨g2, 3, none⟩) (show g1 + 1 ≤ g2 by omega) (.slice A11 n10 c11))
  have hR12 := hR11.setCell_other (p := ⟨g2, 3, none⟩) hn4 (.slice A11 n10 c11)
  have hQ12 : Row (w11.setCell ⟨g2, 3, none⟩ (.slice A11 n10 c11)) g2 77 [.int .u64 (x1 : Int), .int .u64 (x2 : Int), .int .u64 (x3 : Int), .slice A11 n10 c11] := hQ11.setCell 3 (.slice A11 n10 c11)
  have hB12 := hB11.setCell (p := ⟨g2, 3, none⟩) hl2 (.slice A11 n10 c11)
  have hr12 := hr11.only ((Only.refl g2 w11).setCell 3 (.slice A11 n10 c11)) (fun _ a ha => by have := HA11.out a ha; omega)
  have c0 : w11.cell? ⟨g2, 3, none⟩ = some (.slice none 0 0) := hQ11.cell rfl
  clear hT11 hR11 hQ11 hB11 hr11
  go_upto_region 8 with fail
  generalize w11.setCell ⟨g2, 3, none⟩ (.slice A11 n10 c11) = W12 at hT12 hR12 hQ12 hB12 hr12 ⊢
  clear c0 f0
  go_wp2_with fail
  refine (endF_any g1 k4 (S3.drop 8) W12 hT12).mono ?_
  rw [H5.out]
  rintro e₁ w13 ⟨rfl, ⟨v13, hRd⟩, hO⟩
  have hR13 := hR12.only hO hne
  have hQ13 := hQ12.only hO hn2
  have hB13 := hB12.trans (hO.below.mono hle)
  have hr13 := hr12.only hO (fun _ a ha => by have := HA11.out a ha; omega)
  have cd : w13.cell? ⟨g1, 1, none⟩ = some (.int .i64 k5) := hRd.cell rfl
  clear hO hT12 hR12 hQ12 hB12 hr12
  go_upto_region 9 with fail
  by_cases h5 : k5 = 0
  · subst h5
    have eF : (0, x1, x2, x3, T) = F := by rw [HF.out, if_pos rfl]
    subst eF
    go_wp2_with (first
      | (refine wpList_load_part rfl 77 (.tmp 5) rfl g2 0 rfl _ _ hQ13 [.int .u64 (x1 : Int), .int .u64 (x2 : Int), .int .u64 (x3 : Int), .slice A11 n10 c11] (by rfl) _ Tryz.underlying77 rfl (by exact size_pay') ?_)
      | (refine wpList_store_row rfl 77 (.tmp 2) (.tmp 36) rfl w.heap.size rfl [.int .u64 (x1 : Int), .int .u64 (x2 : Int), .int .u64 (x3 : Int), .slice A11 n10 c11] rfl _ _ hR13 (by exact size_pay') rfl (one_four _ _ _ _ rfl rfl rfl rfl) ?_))
    refine bodyPost_ret (results_row_tmp (p := 2) (u := 3) (ty := 77) (by rfl) _ _ w.heap.size 77 _ _ (by rfl) (by exact hR13.setRow _) Tryz.underlying77 (by rfl) (by exact size_pay')) (by rfl) ?_
    exact ⟨A11, n10, c11, rfl, HN10, hc11, hr13.setRow _ (fun a ha => by have := HA11.out a ha; omega), below_setRow hB13 (Nat.le_refl _) _⟩
  · have h50 : (k5 == 0) = false := beq_eq_false_iff_ne.2 h5
    have h51 : (k5 != 0) = true := by rw [bne, h50]; rfl
    have eF : (k5, 0, 0, 0, []) = F := by rw [HF.out, if_neg h5]
    subst eF
    go_upto_region 10 with fail
    have hS : codeP g1 k5 w13.drew := ⟨cd, trivial⟩
    have hR14 := hR13.drew
    have hB14 := hB13.drew
    refine wp_region_plan_of (codeP g1 k5) (.step 0 false (.step 1 false (.step 2 false (.step 3 false (.step 4 false (.step 5 true (.step 6 false (.nil)))))))) hS (by kernel_rfl) (by kernel_rfl) (by rfl) (by kernel_rfl) ?_
    clear hR13 hB13 cd hQ13 hr13 hRd
    generalize w13.drew = wv at *
    iterate 5 (refine plan_read rfl (by rfl) (v := ?_) ?_ ?_; rotate_left 1; (intro W hW; (try dsimp only at hW); obtain ⟨hW0, hW1⟩ := hW; go_simp <;> with_reducible rfl); simp only [List.getElem_toArray, List.getElem_cons_zero, List.getElem_cons_succ, Act.put, List.setIfInBounds_toArray, List.set_cons_zero, List.set_cons_succ])
    have hcs : ∀ (cs : Array Value), (wv.setRow w.heap.size cs).cell? ⟨g1, 1, none⟩ = wv.cell? ⟨g1, 1, none⟩ := fun cs => cell_setRow_other wv w.heap.size cs ⟨g1, 1, none⟩ (show g1 ≠ w.heap.size by omega)
    refine plan_make_of rfl (by rfl) (fun K hK => ?_)
    refine hR14.wp_store 77 (.tmp 2) (.tmp 31) rfl rfl [.int .u64 0, .int .u64 0, .int .u64 0, .slice none 0 0] rfl (by exact size_pay') rfl (one_four _ _ _ _ rfl rfl rfl rfl) ?_
    refine hK.out _ _ ⟨(hcs _).trans hS.1, trivial⟩ ?_
    clear hK K hcs
    simp only [List.getElem_toArray, List.getElem_cons_zero, List.getElem_cons_succ, Act.put, List.setIfInBounds_toArray, List.set_cons_zero, List.set_cons_succ]
    iterate 1 (refine plan_read rfl (by rfl) (v := ?_) ?_ ?_; rotate_left 1; (intro W hW; (try dsimp only at hW); obtain ⟨hW0, hW1⟩ := hW; go_simp <;> with_reducible rfl); simp only [List.getElem_toArray, List.getElem_cons_zero, List.getElem_cons_succ, Act.put, List.setIfInBounds_toArray, List.set_cons_zero, List.set_cons_succ])
    refine plan_done ?_
    go_wp2_with fail
    refine bodyPost_ret (results_row_tmp (p := 2) (u := 3) (ty := 77) (by rfl) _ _ w.heap.size 77 _ _ (by rfl) (by exact hR14.setRow _) Tryz.underlying77 (by rfl) (by exact size_pay')) (by rfl) ?_
    exact ⟨none, 0, 0, rfl, Lib.hid rfl, Nat.le_refl _, Rd.nil, below_setRow hB14 (Nat.le_refl _) _⟩
end Go.Proofs.YteppocjgodmpdaaGreatDoor
/-
  What the reference's calls Bits and value of layer 11 answer. No conditions but those typed.
-/
namespace Go.Proofs.YteppocjgodmpdaaGreatDoor
set_option maxRecDepth 100000
open Go.RowKit
set_option linter.unusedSimpArgs false
set_option linter.unusedVariables false

/-- A call that hands back a list of bytes. -/
def RetY (w : World) (l : List UInt8) (e : Ending) (w' : World) : Prop := ∃ A n c, e = .returned (.slice A n c) ∧ Hid (l.length = n) ∧ n ≤ c ∧ Rd vB w' A l ∧ Below w.heap.size w w'
theorem RetY.own {w w' : World} {l : List UInt8} {base : Nat} {e : TypeId} {v : Value} {n : Nat} (hn : l.length = n) (h : w'.ownsRow base e 1 v n (l.map vB)) (hb : Below w.heap.size w w') : RetY w l (.returned v) w' := by
  subst hn
  obtain ⟨A, c, rfl, hc, hr⟩ := own_slice h
  exact ⟨A, l.length, c, rfl, rfl, hc, hr, hb⟩
def oneL (l : List Bool) : List UInt8 := l.map oneB
theorem one_append (a b : List Bool) : oneL (a ++ b) = oneL a ++ oneL b := List.map_append
theorem one_length (a : List Bool) : (oneL a).length = a.length := List.length_map _

/-! ### Bits -/
theorem bit_table : ∀ j, j < 8 → ∀ c, c < 256 → c / (128 / 2 ^ j) % 2 = (oneB ((bits8 (UInt8.ofNat c)).getD j false)).toNat := by decide +kernel
theorem bit_div (c : UInt8) (j : Nat) (hj : j < 8) : c.toNat / (128 / 2 ^ j) % 2 = (oneB ((bits8 c).getD j false)).toNat := by
  have := bit_table j hj c.toNat c.toNat_lt
  rwa [UInt8.ofNat_toNat] at this
theorem bits_take (c : UInt8) (j : Nat) (hj : j < 8) : (bits8 c).take (j + 1) = (bits8 c).take j ++ [(bits8 c).getD j false] := by
  have hl : j < (bits8 c).length := hj
  rw [List.take_succ_eq_append_getElem hl]
  congr 2
  rw [List.getD_eq_getElem?_getD, List.getElem?_eq_getElem hl]
  rfl
theorem bits_snoc (b : List UInt8) (k : Nat) (h : k < b.length) : bitsL (b.take (k + 1)) = bitsL (b.take k) ++ bits8 b[k] := by
  unfold bitsL
  rw [List.take_succ_eq_append_getElem h, List.flatMap_append]
  simp
def BitR (b : List UInt8) (w : World) (v i : Value) (wr : World) : Prop :=
  ∃ k : Nat, k ≤ b.length ∧ i = .int .i64 (k : Int) ∧ wr.ownsRow w.heap.size 5 1 v (8 * k) ((oneL (bitsL (b.take k))).map vB) ∧ Below w.heap.size w wr
def BitI (P : List Bool) (c : UInt8) (q : Nat) (w : World) (v n : Value) (wr : World) : Prop :=
  ∃ j : Nat, j ≤ 8 ∧ n = .int .i64 ((128 / 2 ^ j : Nat) : Int) ∧ wr.ownsRow w.heap.size 5 1 v (q + j) ((oneL (P ++ (bits8 c).take j)).map vB) ∧ Below w.heap.size w wr
theorem half_table : ∀ j, j < 8 → 128 / 2 ^ j / 2 = 128 / 2 ^ (j + 1) ∧ 0 < 128 / 2 ^ j ∧ 128 / 2 ^ j ≤ 128 := by decide +kernel

set_option maxHeartbeats 2000000 in
theorem refbits_any (b : List UInt8) (n : Nat) (A : Option Addr) (c : Nat) (w : World) (HN : Hid (b.length = n)) (hr : Rd vB w A b) (hn : n ≤ 1000000) :
    Calls Tryz.prog 130 #[.slice A n c] w (RetY w (oneL (bitsL b))) := by
  obtain ⟨i0, hi, hz0, hz1, hz2⟩ := info_parts info_u8
  have e1 := HN.out
  subst e1
  go_enter Tryz.func130, Tryz.ntmps130
  go_wp2_with fail
  go_loopw [3, 4] (fun v i wr => BitR b w v i wr) (fun _ i _ => b.length - (intOf i).toNat)
  case atStart => exact ⟨0, Nat.zero_le _, rfl, World.ownsRow_nil _ _ _ _, Below.refl _ _⟩
  case round =>
    obtain ⟨k, hk, rfl, hown, hbel⟩ := hrel
    by_cases h : k < b.length
    · obtain ⟨g, o, rfl, hg, hcell⟩ := hr.at h
      have hc0 : ∀ W, Below w.heap.size w W → W.cell? ⟨g, o + k, none⟩ = some (.int .u8 (b[k].toNat : Int)) := fun W hW => (hW.cell (p := ⟨g, o + k, none⟩) hg).trans (hcell k h)
      have HC0 := Lib.hid hc0
      have HSN := Lib.hid (bits_snoc b k h)
      generalize b[k] = y at HC0 HSN
      have k1 : (k : Int) < (b.length : Int) := by omega
      have k0 : (0 : Int) ≤ (k : Int) := by omega
      generalize hP : bitsL (b.take k) = P at HSN hown
      have HP := Lib.hid hP
      clear hcell hc0 hP
      go_wp2_with fail
      go_loopw [3, 5] (fun v n wx => BitI P y (8 * k) w v n wx) (fun _ n _ => (intOf n).toNat)
      case atStart => exact ⟨0, by omega, rfl, by rw [List.take_zero, List.append_nil]; exact hown, hbel⟩
      case round =>
        clear hown hbel
        obtain ⟨j, hj, rfl, hown, hbel⟩ := hrel
        by_cases hj8 : j < 8
        · obtain ⟨t1, t2, t3⟩ := half_table j hj8
          have hbd := bit_div y j hj8
          have HBT := Lib.hid (bits_take y j hj8)
          have hyl := y.toNat_lt
          have hc1 := HC0.out wr hbel
          have HT1 := Lib.hid t1
          clear t1
          generalize 128 / 2 ^ j = m at t2 t3 hbd HT1 ⊢
          generalize (bits8 y).getD j false = x at hbd HBT
          have ho : (oneB x).toNat < 2 := by cases x <;> decide
          obtain ⟨ox, hox⟩ : ∃ ox, oneB x = ox := ⟨_, rfl⟩
          have HOX := Lib.hid hox
          rw [hox] at hbd ho
          clear hox
          obtain ⟨r, hr⟩ : ∃ r, ox.toNat = r := ⟨_, rfl⟩
          have HRX := Lib.hid hr
          rw [hr] at hbd ho
          clear hr
          have m0 : (0 : Int) < (m : Int) := by omega
          have m3 : ((m : Int) == 0) = false := beq_eq_false_iff_ne.2 (by omega)
          have m4 : IntKind.i64.wrap (y.toNat : Int) = (y.toNat : Int) := by rw [IntKind.wrap_i64]; omega
          have m5 : IntKind.u8.wrap (r : Int) = (r : Int) := by rw [IntKind.wrap_u8']; omega
          have m7 : (r : Int) % 256 = (r : Int) := by omega
          have hle := hbel.size
          obtain ⟨z, hz⟩ : ∃ z, z = y.toNat / m := ⟨_, rfl⟩
          rw [← hz] at hbd
          have hzl : z ≤ 255 := by have := Nat.div_le_self y.toNat m; omega
          have md : True → (y.toNat : Int) / (m : Int) = (z : Int) := fun _ => by rw [hz, Int.natCast_ediv]
          have m1 : True → (z : Int) % 2 = (r : Int) := fun _ => by rw [← hbd]; rfl
          have m2 : True → (z : Int).tmod 2 = (r : Int) := fun _ => (Int.tmod_eq_emod_of_nonneg (Int.natCast_nonneg z)).trans (m1 trivial)
          clear hbd hz
          go_wp2_with (at_builtin; refine wpList_append_own _ rfl _ _ 22 rfl w.heap.size 5 i0 (.int .u8 0) 1 1 Tryz.underlying22 hi hz0 hz1 hz2 rfl (by decide) _ _ _ rfl (hown.alloc _) ⟨wr.heap.size, 0, none⟩ 1 1 [.int .u8 (r : Int)] rfl rfl (cell_one_new _ _ _) (by intro u hu; simp at hu; subst hu; rfl) (by unfold maxLen; omega) (by omega) (by simp; omega) ?_; intro v' w1 hown' hgrow' _)
          have hB1 : Below w.heap.size w w1 := (hbel.alloc hbel.size _).grown hgrow' (by simp; omega) (fun g hk => (hown.lt g hk).1)
          have hon : w1.ownsRow w.heap.size 5 1 v' (8 * k + (j + 1)) ((oneL (P ++ (bits8 y).take (j + 1))).map vB) := by
            rw [HBT.out, ← List.append_assoc, one_append, List.map_append]
            have e : (oneL [x]).map vB = [.int .u8 (r : Int)] := by rw [← HRX.out, ← HOX.out]; rfl
            rw [e]
            exact hown'
          have HR : Hid (BitI P y (8 * k) w v' (.int .i64 ((m / 2 : Nat) : Int)) w1) := ⟨j + 1, by omega, by rw [HT1.out], hon, hB1⟩
          obtain ⟨hf, hhf⟩ : ∃ hf, hf = m / 2 := ⟨_, rfl⟩
          rw [← hhf] at HR
          clear hown' hgrow' hown hbel hB1 hon md m1 m2 m5 m7 m3 m4
          have d1 : (m : Int).tdiv 2 = (hf : Int) := by rw [Int.tdiv_eq_ediv_of_nonneg (by omega)]; omega
          have d2 : IntKind.i64.wrap (hf : Int) = (hf : Int) := by rw [IntKind.wrap_i64]; omega
          have d3 : (m : Int) / 2 = (hf : Int) := by omega
          have d4 : hf < m := by omega
          clear hhf
          go_wp2_with fail
          go_roundw
          case rel => rw [d3]; exact HR.out
          case measure => simp [intOf] <;> omega
        · have ej : j = 8 := by omega
          subst ej
          have e0 : ((128 / 2 ^ 8 : Nat) : Int) = 0 := by decide
          rw [e0]
          have HR : Hid (BitR b w u3 (.int .i64 ((k : Int) + 1)) wr) := ⟨k + 1, h, by go_num, by rw [HSN.out]; exact hown, hbel⟩
          clear hown hbel
          go_wp2_with fail
          go_roundw
          case rel => exact HR.out
          case measure => simp [intOf] <;> omega
    · have ek : k = b.length := by omega
      subst ek
      have k1 : ¬ (b.length : Int) < (b.length : Int) := by omega
      rw [List.take_length] at hown
      go_wp2_with fail
      go_ret
      exact RetY.own (by rw [one_length, bits_length]) hown hbel
end Go.Proofs.YteppocjgodmpdaaGreatDoor
