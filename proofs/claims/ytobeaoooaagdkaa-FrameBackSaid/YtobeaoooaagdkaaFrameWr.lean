/-
  What the program's calls Right, Write and Msg of layer 12 answer (landed code). No conditions but those typed.
-/
import Derived.Test.YtobeaoooaagdkaaFrameWrite
import Derived.Test.YtobeaoooaagdkaaSlices
namespace Go.Proofs.Ytobeaoooaagdkaa
set_option maxRecDepth 100000
open Go.RowKit
set_option linter.unusedSimpArgs false
set_option linter.unusedVariables false

theorem size_pay' : (Try.prog.info? 25).map (·.size) = some 4 := by kernel_rfl
/-- A call that hands back a list of bytes and an error. -/
def RetV (w : World) (l : List UInt8) (k : Int) (e : Ending) (w' : World) : Prop := ∃ A n c, e = .returned (.tuple #[.slice A n c, .int .i64 k]) ∧ Hid (l.length = n) ∧ n ≤ c ∧ Rd vB w' A l ∧ Below w.heap.size w w'

/-! ### Least, in memory of the call's own -/
def LeastOwn (B : Nat) (L : List UInt8) (w : World) (s : Value) : Prop := ∃ (M : List UInt8) (A : Option Addr) (cap : Nat), s = .slice A M.length cap ∧ M.length ≤ cap ∧ M.length ≤ 8 ∧ Rd vB w A M ∧ L.dropWhile (· == 0) = M.dropWhile (· == 0) ∧ (∀ a, A = some a → B ≤ a.block)
theorem put_new (v : Nat) (hv : v < 18446744073709551616) (w : World) :
    Calls Try.prog 22 #[.int .u64 (v : Int)] w (RetN vB w (putL v)) := by
  have hmk : ∀ w, (Instr.makeSlice 23 (.int .i64 8) (.int .i64 8)).run Try.prog w = .ok (.slice (some ⟨w.heap.size, 0, none⟩) 8 8) (w.alloc (.cells #[.int .u8 0, .int .u8 0, .int .u8 0, .int .u8 0, .int .u8 0, .int .u8 0, .int .u8 0, .int .u8 0] 5)) := fun _ => by kernel_rfl
  go_enter Try.func22, Try.ntmps22
  go_wp2
  refine wp_loop_rounds 9 ?_
  iterate 9 (rw [rounds_succ]; go_wp2)
  go_ret
  exact ⟨_, 8, rfl, Nat.le_refl _, Rd.new _ _ _ _ (put_cells v hv), (fun a ha => by injection ha with ha; subst ha; exact Nat.le_refl _), (Below.refl _ _).alloc (Nat.le_refl _) _⟩
theorem least_new (v : Nat) (hv : v < 18446744073709551616) (w : World) :
    Calls Try.prog 14 #[.int .u64 (v : Int)] w (RetN vB w (leastL v)) := by
  have H8 : Hid (∀ L, L = putL v → L.length = 8) := by rintro L rfl; rfl
  have HL : Hid (∀ L, L = putL v → leastL v = L.dropWhile (· == 0)) := by rintro L rfl; rfl
  go_enter Try.func14, Try.ntmps14
  go_wp2_with (go_at_call 22; refine (put_new v hv _).mono ?_; rintro e w1 ⟨A, cap, rfl, hcap, hrd, hown, hbel⟩)
  obtain ⟨L, e⟩ : ∃ L, L = putL v := ⟨_, rfl⟩
  have h8 := H8.out L e
  have HL' := Lib.hid (HL.out L e)
  rw [← e] at hcap hrd ⊢
  clear HL H8 e
  go_loop [3] (fun s => LeastOwn w.heap.size L w1 s) (fun s => sliceLen s)
  case atStart => exact ⟨L, A, cap, rfl, hcap, by omega, hrd, rfl, hown⟩
  case round =>
    obtain ⟨M, A1, cap1, rfl, hcap1, hm8, hrd1, hdw, hown1⟩ := hrel
    have HD := Lib.hid hdw
    clear hdw h8 hrd hcap hown
    cases M with
    | nil =>
      have HO := Lib.hid hown1
      clear hown1
      go_wp2
      go_ret
      exact ⟨A1, cap1, by rw [HL'.out, HD.out]; rfl, by rw [HL'.out, HD.out]; simp, by rw [HL'.out, HD.out]; exact Rd.nil, HO.out, hbel⟩
    | cons c M =>
      obtain ⟨b, o, rfl, hb, hcell⟩ := hrd1.at (k := 0) (by simp)
      have hc := hcell 0 (by simp)
      simp only [List.getElem_cons_zero, Nat.add_zero, vB] at hc
      have HO : Hid (w.heap.size ≤ b) := hown1 _ rfl
      clear hown1
      by_cases hz : c = 0
      · subst hz
        have hc' : w1.cell? ⟨b, o, none⟩ = some (.int .u8 0) := hc
        have hrd2 : Rd vB w1 (if cap1 = 1 then some ⟨b, o, none⟩ else some ⟨b, o + 1, none⟩) M := by
          have := hrd1.drop 1 cap1 hcap1
          simpa [Addr.add] using this
        have hM : M.length + 1 ≤ cap1 := by simpa using hcap1
        have hM8 : M.length + 1 ≤ 8 := by simpa using hm8
        have HD' : Hid (L.dropWhile (· == 0) = M.dropWhile (· == 0)) := by
          unfold Hid
          rw [HD.out, List.dropWhile_cons, if_pos (by rfl)]
        clear hc hcell hrd1 hcap1 hm8
        go_wp2
        go_round
        case rel => exact ⟨M, _, cap1 - 1, rfl, by omega, by omega, hrd2, HD'.out, fun a ha => by split at ha <;> (injection ha with ha; subst ha; exact HO.out)⟩
        case measure => simp [sliceLen]
      · have hne : ((c.toNat : Int) == 0) = false := by
          have : c.toNat ≠ 0 := fun h => hz (UInt8.toNat_inj.1 h)
          simp
          omega
        have HF : Hid (L.dropWhile (· == 0) = c :: M) := by
          unfold Hid
          rw [HD.out, List.dropWhile_cons, if_neg (by simpa using hz)]
        clear hz hcell
        go_wp2
        go_ret
        exact ⟨_, cap1, by rw [HL'.out, HF.out]; rfl, by rw [HL'.out, HF.out]; exact hcap1, by rw [HL'.out, HF.out]; exact hrd1, (fun a ha => by injection ha with ha; subst ha; exact HO.out), hbel⟩

/-! ### Right -/
theorem rightP_any (t e c : Nat) (tag : List UInt8) (n : Nat) (A : Option Addr) (k : Nat) (w : World) (HN : Hid (tag.length = n)) (hr : Rd vB w A tag) (hk : n ≤ k) (hn : n ≤ 100000) :
    Calls Try.prog 10 #[aggP t e c A n k] w fun e₁ w' => e₁ = .returned (.bool (decide (n = 8))) ∧ Below w.heap.size w w' := by
  obtain ⟨hR0, hB0⟩ := box_pay w 25 (.int .u64 (t : Int)) (.int .u64 (e : Int)) (.int .u64 (c : Int)) (.slice A n k)
  have hd : ((n : Int) == 8) = decide (n = 8) := by
    by_cases h : n = 8
    · subst h; rfl
    · rw [decide_eq_false h]; exact beq_eq_false_iff_ne.2 (by omega)
  rw [← hd]
  clear hd
  unfold aggP
  go_enter Try.func10, Try.ntmps10
  go_upto_region 1 with fail
  generalize (w.alloc (.cells #[.int .u64 (t : Int), .int .u64 (e : Int), .int .u64 (c : Int), .slice A n k] 25)) = W0 at hR0 hB0 ⊢
  have c3 : W0.cell? ⟨w.heap.size, 3, none⟩ = some (.slice A n k) := hR0.cell rfl
  go_wp2_with fail
  go_ret
  exact ⟨rfl, hB0⟩

/-! ### Write -/
theorem writeP_no (t e c : Nat) (tag : List UInt8) (n : Nat) (A : Option Addr) (k : Nat) (w : World) (ht : t < 18446744073709551616) (he : e < 18446744073709551616) (hc : c < 18446744073709551616) (HN : Hid (tag.length = n)) (hr : Rd vB w A tag) (hk : n ≤ k) (hn : n ≤ 100000) (h8 : n ≠ 8) :
    Calls Try.prog 6 #[aggP t e c A n k] w (RetV w [] 1) := by
  obtain ⟨hR0, hB0⟩ := box_pay w 25 (.int .u64 (t : Int)) (.int .u64 (e : Int)) (.int .u64 (c : Int)) (.slice A n k)
  unfold aggP
  go_enter Try.func6, Try.ntmps6
  go_upto_region 1 with fail
  generalize (w.alloc (.cells #[.int .u64 (t : Int), .int .u64 (e : Int), .int .u64 (c : Int), .slice A n k] 25)) = W0 at hR0 hB0 ⊢
  go_wp2_with (refine wpList_load_part rfl 25 (.tmp 1) rfl w.heap.size 0 rfl _ _ hR0 [.int .u64 (t : Int), .int .u64 (e : Int), .int .u64 (c : Int), .slice A n k] (by rfl) _ Try.underlying25 rfl (by exact size_pay') ?_)
  refine (rightP_any t e c tag n A k _ HN (hr.keep hB0) hk hn).mono ?_
  rw [decide_eq_false h8]
  rintro e₁ w1 ⟨rfl, hb⟩
  go_wp2_with fail
  go_ret2
  exact ⟨none, 0, 0, rfl, Lib.hid rfl, Nat.le_refl _, Rd.nil, below_step hB0 hb⟩
theorem index_three (N : List Nat) (a b c : Nat) (hN : N = [a, b, c]) (i : Nat) (h : i < N.length) (W : World) : (Instr.index 40 (.agg #[.int .u64 (a : Int), .int .u64 (b : Int), .int .u64 (c : Int)]) (.int .i64 (i : Int))).run Try.prog W = .ok (.int .u64 (N[i] : Int)) W := by
  subst hN
  have hi : i = 0 ∨ i = 1 ∨ i = 2 := by simp at h; omega
  rcases hi with rfl | rfl | rfl
  · exact ((by kernel_rfl : (Instr.index 40 (.agg #[.int .u64 (a : Int), .int .u64 (b : Int), .int .u64 (c : Int)]) (.int .i64 0)).run Try.prog W = .ok (.int .u64 (a : Int)) W))
  · exact ((by kernel_rfl : (Instr.index 40 (.agg #[.int .u64 (a : Int), .int .u64 (b : Int), .int .u64 (c : Int)]) (.int .i64 1)).run Try.prog W = .ok (.int .u64 (b : Int)) W))
  · exact ((by kernel_rfl : (Instr.index 40 (.agg #[.int .u64 (a : Int), .int .u64 (b : Int), .int .u64 (c : Int)]) (.int .i64 2)).run Try.prog W = .ok (.int .u64 (c : Int)) W))
def WrV (N : List Nat) (cp : List Value) (w : World) (v iv : Value) (wr : World) : Prop :=
  ∃ i : Nat, i ≤ 3 ∧ iv = .int .i64 (i : Int) ∧ wr.ownsRow (w.heap.size + 1) 5 1 v (preF N i).length ((preF N i).map vB) ∧ Row wr w.heap.size 25 cp ∧ Below w.heap.size w wr
set_option maxRecDepth 100000 in
set_option maxHeartbeats 2000000 in
theorem writeP_ok (t e c : Nat) (tag : List UInt8) (A : Option Addr) (k : Nat) (w : World) (ht : t < 18446744073709551616) (he : e < 18446744073709551616) (hc : c < 18446744073709551616) (HN : Hid (tag.length = 8)) (hr : Rd vB w A tag) (hk : 8 ≤ k) :
    Calls Try.prog 6 #[aggP t e c A 8 k] w (RetV w (writeF t e c tag) 0) := by
  obtain ⟨i0, hi, hz0, hz1, hz2⟩ := info_parts info_u8
  obtain ⟨hR0, hB0⟩ := box_pay w 25 (.int .u64 (t : Int)) (.int .u64 (e : Int)) (.int .u64 (c : Int)) (.slice A 8 k)
  have HALL : Hid (∀ x ∈ [t, e, c], x < 18446744073709551616) := fun x hx => by
    simp at hx
    rcases hx with rfl | rfl | rfl <;> assumption
  unfold aggP
  go_enter Try.func6, Try.ntmps6
  go_upto_region 1 with fail
  generalize (w.alloc (.cells #[.int .u64 (t : Int), .int .u64 (e : Int), .int .u64 (c : Int), .slice A 8 k] 25)) = W0 at hR0 hB0 ⊢
  go_wp2_with (refine wpList_load_part rfl 25 (.tmp 1) rfl w.heap.size 0 rfl _ _ hR0 [.int .u64 (t : Int), .int .u64 (e : Int), .int .u64 (c : Int), .slice A 8 k] (by rfl) _ Try.underlying25 rfl (by exact size_pay') ?_)
  refine (rightP_any t e c tag 8 A k _ HN (hr.keep hB0) hk (by omega)).mono ?_
  rw [show decide ((8 : Nat) = 8) = true from rfl]
  rintro e₁ W1 ⟨rfl, hb⟩
  replace hR0 := hR0.later hb
  replace hB0 := below_step hB0 hb
  clear hb
  go_upto_region 3 with fail
  have hgl0 := hR0.lt
  have hown0 : (W1.alloc (.cells #[.int .u8 87] 5)).ownsRow (w.heap.size + 1) 5 1 (.slice (some ⟨W1.heap.size, 0, none⟩) 1 1) 1 ([(87 : UInt8)].map vB) := own_base (own_lit W1 5 ([(87 : UInt8)].map vB) #[.int .u8 87] rfl (by unfold maxLen; simp)) (by omega)
  have hbn := below_new (Below.refl W1.heap.size W1) (.cells #[.int .u8 87] 5)
  replace hR0 := hR0.later hbn
  replace hB0 := below_step hB0 hbn
  go_upto_region 4 with fail
  generalize W1.alloc (.cells #[.int .u8 87] 5) = W2 at hown0 hR0 hB0 ⊢
  have c0 : W2.cell? ⟨w.heap.size, 0, none⟩ = some (.int .u64 (t : Int)) := hR0.cell rfl
  have c1 : W2.cell? ⟨w.heap.size, 1, none⟩ = some (.int .u64 (e : Int)) := hR0.cell rfl
  have c2 : W2.cell? ⟨w.heap.size, 2, none⟩ = some (.int .u64 (c : Int)) := hR0.cell rfl
  generalize W1.heap.size = g1 at *
  clear hbn hgl0
  go_wp2_with fail
  clear c0 c1 c2
  have HPW : Hid (preF [t, e, c] 3 ++ tag = writeF t e c tag) := pre_write t e c tag
  obtain ⟨N, hN⟩ : ∃ N, N = [t, e, c] := ⟨_, rfl⟩
  have HIX := Lib.hid (index_three N t e c hN)
  have hN3 : N.length = 3 := by rw [hN]; rfl
  rw [← hN] at HALL HPW
  have HPR : Hid (w.heap.size ≤ W2.heap.size) := hB0.size
  have hown0' : W2.ownsRow (w.heap.size + 1) 5 1 (.slice (some ⟨g1, 0, none⟩) 1 1) (preF N 0).length ((preF N 0).map vB) := by
    have : preF N 0 = [87] := by simp [preF]
    rw [this]
    exact hown0
  clear hN hown0
  go_loopw [4, 19] (fun v iv wr => WrV N [.int .u64 (t : Int), .int .u64 (e : Int), .int .u64 (c : Int), .slice A 8 k] w v iv wr) (fun _ i _ => 3 - (intOf i).toNat)
  case atStart => exact ⟨0, by omega, rfl, hown0', hR0, hB0⟩
  case round =>
    clear hown0' hR0 hB0
    obtain ⟨i, hi3, rfl, hown, hRp, hbel⟩ := hrel
    have hpl := pre_length N i
    by_cases h : i < 3
    · have hiN : i < N.length := by omega
      have HPN := Lib.hid (pre_next N i hiN)
      have hx := HALL.out N[i] (List.getElem_mem hiN)
      have hix := HIX.out i hiN
      have i1 : (i : Int) < 3 := by omega
      have i0' : (0 : Int) ≤ (i : Int) := by omega
      generalize N[i] = x at hx hix HPN
      have HX := Lib.hid hx
      generalize preF N i = P at hown hpl HPN
      clear hx
      go_wp2_with fail
      refine (least_new x HX.out _).mono ?_
      rintro ee w1 ⟨A1, c1, rfl, hc1, hr1, hA1, hb1⟩
      have hvb : ∀ b, Value.ownBlock u4 = some b → b < wr.heap.size := fun b hb => (hown.lt b hb).2
      have hll := leastL_length x
      have HNM : Hid (numF x = UInt8.ofNat (leastL x).length :: leastL x) := rfl
      generalize leastL x = L at hc1 hr1 hll HNM ⊢
      obtain ⟨m, hm⟩ : ∃ m, L.length = m := ⟨_, rfl⟩
      have hy : (UInt8.ofNat m).toNat = m := by rw [UInt8.toNat_ofNat']; omega
      have HM := Lib.hid hm
      rw [hm] at hc1 hll HNM ⊢
      generalize UInt8.ofNat m = y at hy HNM
      have hyi : IntKind.u8.wrap (m : Int) = (y.toNat : Int) := by rw [IntKind.wrap_u8', hy]; omega
      have hyj : (m : Int) % 256 = (y.toNat : Int) := by rw [hy]; omega
      have hown1 := ownsRow_later hown hb1
      have hRp1 := hRp.later hb1
      have hB1 := below_step hbel hb1
      have hsz1 := hB1.size
      have hgl := hRp.lt
      have hs11 := hb1.size
      have hry : Rd vB (w1.alloc (.cells #[.int .u8 (y.toNat : Int)] 5)) (some ⟨w1.heap.size, 0, none⟩) [y] := Rd.new w1 [y] _ _ rfl
      have hbn := below_new (Below.refl w1.heap.size w1) (.cells #[.int .u8 (y.toNat : Int)] 5)
      have hbs := hbn.size
      replace hown1 := ownsRow_later hown1 hbn
      replace hRp1 := hRp1.later hbn
      replace hr1 := hr1.keep hbn
      replace hB1 := below_step hB1 hbn
      clear hown hRp hbel hb1 hbn hm hy
      go_upto_region 9 with (at_builtin; refine wpList_append_apart _ rfl (.tmp 24) (.tmp 28) 23 rfl (w.heap.size + 1) 5 i0 (.int .u8 0) 1 Try.underlying23 hi hz0 hz1 hz2 rfl _ _ _ rfl hown1 _ ([y]) 1 rfl hry vB_one (by show P.length + 1 ≤ maxLen; unfold maxLen; omega) (by show (P.length + 1) * 1 ≤ _; omega) (by omega) ?_; intro v3 w3 hown3 hgrow3 hat3)
      have hB3 : Below w.heap.size w w3 := hB1.grown hgrow3 (by omega) (fun k hk => by have := (hown1.lt k hk).1; omega)
      have hRp3 := hRp1.grown hgrow3 (fun e => by have := (hown1.lt _ e).1; omega)
      have hr3 := hr1.grown hgrow3 (fun a ha e => by have h1 := hA1 a ha; have h2 := hvb _ e; omega)
      clear hown1 hgrow3 hRp1 hr1 hB1
      have e1 : P.length + [y].length = (P ++ [y]).length := by rw [List.length_append]
      have e2 : P.map vB ++ [y].map vB = (P ++ [y]).map vB := by rw [List.map_append]
      rw [e1, e2] at hown3
      have hP1 : (P ++ [y]).length ≤ 100 := by rw [List.length_append]; simp; omega
      have HPP : Hid (preF N (i + 1) = (P ++ [y]) ++ L) := by unfold Hid; rw [HPN.out, HNM.out]; simp
      generalize P ++ [y] = P1 at hown3 hP1 HPP
      clear e1 e2
      have hgl3 := hRp3.lt
      go_wp2_with (at_builtin; refine wpList_append_apart _ rfl (.tmp 30) (.tmp 31) 23 rfl (w.heap.size + 1) 5 i0 (.int .u8 0) 1 Try.underlying23 hi hz0 hz1 hz2 rfl _ _ _ rfl hown3 A1 L c1 (by rw [HM.out]; rfl) hr3 vB_one (by rw [HM.out]; unfold maxLen; omega) (by rw [HM.out]; omega) (by omega) ?_; intro v4 w4 hown4 hgrow4 hat4)
      have hB4 : Below w.heap.size w w4 := hB3.grown hgrow4 hB3.size (fun k hk => by have := (hown3.lt k hk).1; omega)
      have HREL : Hid (WrV N [.int .u64 (t : Int), .int .u64 (e : Int), .int .u64 (c : Int), .slice A 8 k] w v4 (.int .i64 ((i : Int) + 1)) w4) :=
        ⟨i + 1, by omega, by go_num, by rw [HPP.out, List.length_append, List.map_append]; exact hown4, hRp3.grown hgrow4 (fun e => by have := (hown3.lt _ e).1; omega), hB4⟩
      clear hown4 hgrow4 hown3 hB4 hB3 hRp3
      go_wp2_with fail
      go_roundw
      case rel => exact HREL.out
      case measure => simp [intOf] <;> omega
    · have ei : i = 3 := by omega
      subst ei
      have hcell : wr.cell? ⟨w.heap.size, 3, none⟩ = some (.slice A 8 k) := hRp.cell rfl
      have hrt := hr.keep hbel
      have i1 : ¬ (3 : Int) < 3 := by omega
      have hs := hbel.size
      have hgl := hRp.lt
      generalize preF N 3 = P at hown hpl HPW
      go_wp2_with (at_builtin; refine wpList_append_apart _ rfl (.tmp 34) (.tmp 36) 23 rfl (w.heap.size + 1) 5 i0 (.int .u8 0) 1 Try.underlying23 hi hz0 hz1 hz2 rfl _ _ _ rfl hown A tag k (by rw [HN.out]; rfl) hrt vB_one (by rw [HN.out]; unfold maxLen; omega) (by rw [HN.out]; omega) (by omega) ?_; intro v4 w4 hown4 hgrow4 hat4)
      have hB4 : Below w.heap.size w w4 := hbel.grown hgrow4 hbel.size (fun k hk => by have := (hown.lt k hk).1; omega)
      rw [← List.map_append, ← List.length_append, HPW.out] at hown4
      obtain ⟨A4, c4, rfl, hc4, hr4⟩ := own_slice hown4
      clear hown4 hgrow4
      go_wp2_with fail
      go_ret2
      exact ⟨A4, _, c4, rfl, Lib.hid rfl, hc4, hr4, hB4⟩

/-! ### Msg -/
def mreF (N : List Nat) (i : Nat) : List UInt8 := 67 :: (N.take i).flatMap putL
theorem mre_next (N : List Nat) (i : Nat) (h : i < N.length) : mreF N (i + 1) = mreF N i ++ putL N[i] := by
  unfold mreF
  rw [List.take_succ_eq_append_getElem h, List.flatMap_append, List.cons_append]
  simp
theorem mre_length (N : List Nat) (i : Nat) : (mreF N i).length ≤ 1 + 8 * i := by
  induction i with
  | zero => simp [mreF]
  | succ i ih =>
    rcases Nat.lt_or_ge i N.length with h | h
    · rw [mre_next N i h, List.length_append, putL_len]
      omega
    · have e : mreF N (i + 1) = mreF N i := by unfold mreF; rw [List.take_of_length_le (by omega), List.take_of_length_le h]
      rw [e]
      omega
def MsV (N : List Nat) (w : World) (v iv : Value) (wr : World) : Prop :=
  ∃ i : Nat, i ≤ 3 ∧ iv = .int .i64 (i : Int) ∧ wr.ownsRow w.heap.size 5 1 v (mreF N i).length ((mreF N i).map vB) ∧ Below w.heap.size w wr
theorem put_at (v : Nat) (hv : v < 18446744073709551616) (w : World) : Calls Try.prog 22 #[.int .u64 (v : Int)] w fun e w' => ∃ A c, e = .returned (.slice A 8 c) ∧ 8 ≤ c ∧ Rd vB w' A (putL v) ∧ Below w.heap.size w w' :=
  (put_new v hv w).mono fun e w' ⟨A, c, h1, h2, h3, _, h4⟩ => ⟨A, c, h1, h2, h3, h4⟩
set_option maxRecDepth 100000 in
set_option maxHeartbeats 2000000 in
theorem msgP_any (t e c : Nat) (w : World) (ht : t < 18446744073709551616) (he : e < 18446744073709551616) (hc : c < 18446744073709551616) :
    Calls Try.prog 12 #[.int .u64 (t : Int), .int .u64 (e : Int), .int .u64 (c : Int)] w (RetZ w (msgF t e c)) := by
  obtain ⟨i0, hi, hz0, hz1, hz2⟩ := info_parts info_u8
  have HALL : Hid (∀ x ∈ [t, e, c], x < 18446744073709551616) := fun x hx => by
    simp at hx
    rcases hx with rfl | rfl | rfl <;> assumption
  go_enter Try.func12, Try.ntmps12
  go_upto_region 2 with fail
  have hown0 : (w.alloc (.cells #[.int .u8 67] 5)).ownsRow w.heap.size 5 1 (.slice (some ⟨w.heap.size, 0, none⟩) 1 1) 1 ([(67 : UInt8)].map vB) := own_lit w 5 ([(67 : UInt8)].map vB) #[.int .u8 67] rfl (by unfold maxLen; simp)
  have hB0 := below_new (Below.refl w.heap.size w) (.cells #[.int .u8 67] 5)
  generalize w.alloc (.cells #[.int .u8 67] 5) = W0 at hown0 hB0 ⊢
  go_wp2_with fail
  have HPW : Hid (mreF [t, e, c] 3 = msgF t e c) := by unfold Hid mreF msgF; simp
  obtain ⟨N, hN⟩ : ∃ N, N = [t, e, c] := ⟨_, rfl⟩
  have HIX := Lib.hid (index_three N t e c hN)
  have hN3 : N.length = 3 := by rw [hN]; rfl
  rw [← hN] at HALL HPW
  have hown0' : W0.ownsRow w.heap.size 5 1 (.slice (some ⟨w.heap.size, 0, none⟩) 1 1) (mreF N 0).length ((mreF N 0).map vB) := by
    have : mreF N 0 = [67] := by simp [mreF]
    rw [this]
    exact hown0
  clear hN hown0
  go_loopw [7, 15] (fun v iv wr => MsV N w v iv wr) (fun _ i _ => 3 - (intOf i).toNat)
  case atStart => exact ⟨0, by omega, rfl, hown0', hB0⟩
  case round =>
    clear hown0' hB0
    obtain ⟨i, hi3, rfl, hown, hbel⟩ := hrel
    have hpl := mre_length N i
    by_cases h : i < 3
    · have hiN : i < N.length := by omega
      have HPN := Lib.hid (mre_next N i hiN)
      have hx := HALL.out N[i] (List.getElem_mem hiN)
      have hix := HIX.out i hiN
      have i1 : (i : Int) < 3 := by omega
      have i0' : (0 : Int) ≤ (i : Int) := by omega
      generalize N[i] = x at hx hix HPN
      have HX := Lib.hid hx
      generalize mreF N i = P at hown hpl HPN
      clear hx
      go_wp2_with fail
      refine (put_at x HX.out _).mono ?_
      rintro ee w1 ⟨A1, c1, rfl, hc1, hr1, hb1⟩
      have hll := putL_len x
      generalize putL x = L at hr1 hll HPN
      have HL := Lib.hid hll
      have hown1 := ownsRow_later hown hb1
      have hB1 := below_step hbel hb1
      have hsz1 := hB1.size
      clear hown hbel hb1 hll
      go_wp2_with (at_builtin; refine wpList_append_rd _ rfl (.tmp 18) (.tmp 20) 23 rfl w.heap.size 5 i0 (.int .u8 0) 1 Try.underlying23 hi hz0 hz1 hz2 rfl _ _ _ rfl hown1 A1 L c1 (by rw [HL.out]; rfl) hr1 vB_one (by rw [HL.out]; unfold maxLen; omega) (by rw [HL.out]; omega) (by omega) ?_; intro v4 w4 hown4 hgrow4)
      have hB4 : Below w.heap.size w w4 := hB1.grown hgrow4 hB1.size (fun k hk => by have := (hown1.lt k hk).1; omega)
      have HREL : Hid (MsV N w v4 (.int .i64 ((i : Int) + 1)) w4) :=
        ⟨i + 1, by omega, by go_num, by rw [HPN.out, List.length_append, List.map_append]; exact hown4, hB4⟩
      clear hown4 hgrow4 hown1 hB4 hB1
      go_wp2_with fail
      go_roundw
      case rel => exact HREL.out
      case measure => simp [intOf] <;> omega
    · have ei : i = 3 := by omega
      subst ei
      have i1 : ¬ (3 : Int) < 3 := by omega
      rw [HPW.out] at hown hpl
      clear HPW
      obtain ⟨A4, c4, rfl, hc4, hr4⟩ := own_slice hown
      obtain ⟨n4, hn4⟩ : ∃ n4, (msgF t e c).length = n4 := ⟨_, rfl⟩
      rw [hn4] at hc4 hpl ⊢
      have HN4 := Lib.hid hn4
      clear hown hn4
      go_wp2_with fail
      go_ret
      exact ⟨A4, n4, c4, rfl, HN4, hc4, hr4, hbel⟩
end Go.Proofs.Ytobeaoooaagdkaa
