/-
  What the reference's call Quo of layer 8 answers. No conditions but those typed.
-/
import Derived.Test.YtojegpoilildaaaPolySlope
namespace Go.Proofs.Ytojegpoilildaaa
set_option maxRecDepth 100000
open Go.RowKit
set_option linter.unusedSimpArgs false
set_option linter.unusedVariables false

/-- What a division hands back: both plain. -/
def QuoRes (p q : List UInt8) (w : World) (e : Ending) (w' : World) : Prop :=
  ∃ (a r : List UInt8) (A B : Option Addr) (n m c d : Nat), e = .returned (.tuple #[.slice A n c, .slice B m d]) ∧ Hid (a.length = n) ∧ Hid (r.length = m) ∧ n ≤ c ∧ m ≤ d ∧ Rd vB w' A a ∧ Rd vB w' B r ∧ Below w.heap.size w w' ∧ Hid (IsQuo p q a r ∧ plainL a = a ∧ plainL r = r)
def DivRel (p q : List UInt8) (w : World) (u v : Value) (wr : World) : Prop :=
  ∃ (a l : List UInt8) (A B : Option Addr) (n m c d : Nat), u = .slice B m d ∧ v = .slice A n c ∧ Hid (a.length = n) ∧ Hid (l.length = m) ∧ n ≤ c ∧ m ≤ d ∧ n ≤ 50001 ∧ m ≤ 50000 ∧ Rd vB wr A a ∧ Rd vB wr B l ∧ Below w.heap.size w wr ∧ Hid (Eqv (addL (mulL a q) l) p ∧ plainL a = a ∧ plainL l = l)
theorem plain_mul_nil (q l : List UInt8) : Eqv (addL (mulL [] q) l) l := fun k => by
  rw [mulL, addL]
theorem quo_often_len (a : List UInt8) (n : Nat) (t : UInt8) : (plainL (addL a (shiftL n [t]))).length ≤ max a.length (n + 1) := by
  refine Nat.le_trans (plain_len _) ?_
  rw [addL_length, shift_length]
  exact Nat.le_refl _

theorem scale_one_shift (t : UInt8) (j : Nat) : shiftL j (scaleL t [1]) = shiftL j [t] := by
  rw [scaleL, List.map_cons, List.map_nil, mul_one]
set_option maxHeartbeats 2000000 in
theorem refquo_any (p q : List UInt8) (n m : Nat) (A B : Option Addr) (c d : Nat) (w : World) (HN : Hid (p.length = n)) (HM : Hid (q.length = m)) (hp : Rd vB w A p) (hq : Rd vB w B q) (hnc : n ≤ c) (hmd : m ≤ d) (hn : n ≤ 50000) (hm : m ≤ 50000) (hq0 : plainL q ≠ []) :
    Calls Try.prog 21 #[.slice A n c, .slice B m d] w (QuoRes p q w) := by
  have HQ0 := Lib.hid hq0
  clear hq0
  go_enter Try.func21, Try.ntmps21
  go_wp2_with fail
  refine (refplain_any q m B d _ HM hq hmd (by omega)).mono ?_
  rintro e w1 ⟨B1, m1, d1, rfl, HM1, hd1, hr1, hb1⟩
  go_wp2_with fail
  refine (refplain_any p n A c _ HN (hp.keep hb1) hnc (by omega)).mono ?_
  rintro e w2 ⟨A1, n1, c1, rfl, HN1, hc1, hl1, hb2⟩
  replace hr1 := hr1.keep hb2
  have hB := below_step hb1 hb2
  clear hb1 hb2
  have hm1 : m1 ≤ 50000 := by
    have h1 := plain_len q
    rw [HM1.out, HM.out] at h1
    omega
  have hn1 : n1 ≤ 50000 := by
    have h1 := plain_len p
    rw [HN1.out, HN.out] at h1
    omega
  have hm0 : 0 < m1 := by rw [← HM1.out]; exact List.length_pos_iff.2 HQ0.out
  obtain ⟨j1, rfl⟩ : ∃ j, m1 = j + 1 := ⟨m1 - 1, by omega⟩
  obtain ⟨Q, hQ⟩ : ∃ Q, Q = plainL q := ⟨_, rfl⟩
  have HQe : Hid (Eqv Q q) := by rw [hQ]; exact plain_eqv q
  have HQp : Hid (plainL Q = Q) := by rw [hQ]; exact plain_plain q
  have HQl : Hid ((plainL q).length = j1 + 1) := HM1.out
  have HQn : Hid (Q ≠ []) := by rw [hQ]; exact HQ0.out
  rw [← hQ] at HM1 hr1
  have hqt : co Q (Q.length - 1) ≠ 0 := by
    have := plain_top Q (by rw [HQp.out]; exact HQn.out)
    rwa [HQp.out] at this
  rw [HM1.out, Nat.add_sub_cancel] at hqt
  have hlt : j1 < Q.length := by rw [HM1.out]; omega
  obtain ⟨blk, o, rfl, hblk, hcell⟩ := hr1.at hlt
  have hc0 := hcell j1 hlt
  have hco := co_lt Q j1 hlt
  unfold vB at hc0
  obtain ⟨y, hy⟩ : ∃ y, Q[j1] = y := ⟨_, rfl⟩
  rw [hy] at hc0 hco
  rw [hco] at hqt
  have HTOP := Lib.hid hco
  clear hcell hy hco hQ
  have z0 : (0 : Int) ≤ (j1 : Int) := by omega
  go_wp2_with fail
  refine (refinv_any y _ hqt).mono ?_
  rintro e w3 ⟨rfl, rfl⟩
  clear hc0 hqt
  go_wp2_with fail
  go_loopw [6, 7] (fun u v wr => DivRel p Q w2 u v wr) (fun u _ _ => sliceLen u)
  case atStart => exact ⟨[], plainL p, none, A1, 0, n1, 0, c1, rfl, rfl, rfl, HN1, Nat.le_refl _, hc1, by omega, hn1, Rd.nil, hl1, Below.refl _ _, (plain_mul_nil _ _).trans (plain_eqv p), rfl, plain_plain p⟩
  case round =>
    clear hl1 HN1 hc1
    obtain ⟨a, l, A2, B2, na, nl, c2, d2, rfl, rfl, HNA, HNL, hca, hdl, hna, hnl, hra, hrl, hbx, HE⟩ := hrel
    by_cases hge : j1 + 1 ≤ nl
    · obtain ⟨j, hj⟩ : ∃ j, nl = j + (j1 + 1) := ⟨nl - (j1 + 1), by omega⟩
      obtain ⟨tl, htl⟩ : ∃ tl, nl = tl + 1 := ⟨nl - 1, by omega⟩
      have i1 : (j1 : Int) + 1 ≤ (nl : Int) := by omega
      have i2 : (nl : Int) - ((j1 : Int) + 1) = (j : Int) := by omega
      have i3 : (nl : Int) - 1 = (tl : Int) := by omega
      have i4 : (0 : Int) ≤ (tl : Int) := by omega
      have i5 : (tl : Int) < (nl : Int) := by omega
      have i6 : IntKind.i64.wrap ((nl : Int) - ((j1 : Int) + 1)) = (j : Int) := by rw [i2, IntKind.wrap_i64]; omega
      have i7 : IntKind.i64.wrap ((nl : Int) - 1) = (tl : Int) := by rw [i3, IntKind.wrap_i64]; omega
      have hlt2 : tl < l.length := by rw [HNL.out]; omega
      obtain ⟨blk2, o2, rfl, hblk2, hcell2⟩ := hrl.at hlt2
      have hc0 := hcell2 tl hlt2
      have hco2 := co_lt l tl hlt2
      unfold vB at hc0
      obtain ⟨x, hx⟩ : ∃ x, l[tl] = x := ⟨_, rfl⟩
      rw [hx] at hc0 hco2
      obtain ⟨T, hT⟩ : ∃ T, T = mulB x (invB y) := ⟨_, rfl⟩
      have hm1' : ∀ w, Calls Try.prog 29 #[.int .u8 (x.toNat : Int), .int .u8 ((invB y).toNat : Int)] w fun e w' => e = .returned (.int .u8 (T.toNat : Int)) ∧ w = w' := fun w => by rw [hT]; exact refmul_any x (invB y) w
      have HM1' := Lib.hid hm1'
      have HST : Hid (Eqv (addL (mulL (plainL (addL a (shiftL j [T]))) Q) (plainL (addL l (shiftL j (scaleL T Q))))) p ∧ (plainL (addL l (shiftL j (scaleL T Q)))).length < l.length) :=
        quo_step HE.out.2.2 HQp.out HQn.out (by rw [HNL.out, HM1.out]; exact hj) (by rw [hT, HNL.out, HM1.out, htl, Nat.add_sub_cancel, Nat.add_sub_cancel, hco2, HTOP.out]) HE.out.1
      have HJ := Lib.hid hj
      clear hx hco2 hcell2 hm1' hT HE hj htl
      go_wp2_with fail
      refine (HM1'.out _).mono ?_
      rintro e w4 ⟨rfl, rfl⟩
      clear hc0
      have h1r : Rd vB (wr.alloc (.cells #[.int .u8 1] 5)) (some ⟨wr.heap.size, 0, none⟩) [1] := Rd.new wr [1] _ _ rfl
      have hbn := below_new (Below.refl _ wr) (.cells #[.int .u8 1] 5)
      replace hra := hra.keep hbn
      replace hrl := hrl.keep hbn
      replace hbx := below_step hbx hbn
      go_wp2_with fail
      refine (refshift_any T [1] j 1 _ _ _ (Lib.hid rfl) h1r (by omega) (by have := HJ.out; omega)).mono ?_
      rintro e w5 ⟨A5, n5, c5, rfl, HN5, hc5, hr5, hb5⟩
      have e5 : n5 = j + 1 := by rw [← HN5.out, shift_length]; rfl
      rw [scale_one_shift] at HN5 hr5
      replace hra := hra.keep hb5
      replace hrl := hrl.keep hb5
      replace hbx := below_step hbx hb5
      clear hbn h1r hb5
      have h5le : n5 ≤ 50001 := by have := HJ.out; omega
      clear e5
      go_wp2_with fail
      refine (refadd_any a (shiftL j [T]) na n5 _ _ _ _ _ HNA HN5 hra hr5 (by omega) (by omega)).mono ?_
      rintro e w6 ⟨A6, n6, c6, rfl, HN6, hc6, hr6, hb6⟩
      have h6le : n6 ≤ 50001 := by
        have := quo_often_len a j T
        rw [HN6.out, HNA.out] at this
        omega
      replace hrl := hrl.keep hb6
      replace hbx := below_step hbx hb6
      clear hra hr5 hb6
      have hrq := (hr1.keep hbx)
      go_wp2_with fail
      refine (refshift_any T Q j (j1 + 1) _ _ _ HM1 hrq (by omega) (by have := HJ.out; omega)).mono ?_
      rintro e w7 ⟨A7, n7, c7, rfl, HN7, hc7, hr7, hb7⟩
      have e7 : n7 = nl := by rw [← HN7.out, shift_length, scaleL, List.length_map, HM1.out, HJ.out]
      have h7le : n7 ≤ 50000 := by omega
      clear e7
      replace hrl := hrl.keep hb7
      replace hr6 := hr6.keep hb7
      replace hbx := below_step hbx hb7
      clear hrq hb7
      go_wp2_with fail
      refine (refadd_any l (shiftL j (scaleL T Q)) nl n7 _ _ _ _ _ HNL HN7 hrl hr7 (by omega) (by omega)).mono ?_
      rintro e w8 ⟨A8, n8, c8, rfl, HN8, hc8, hr8, hb8⟩
      have h8 : n8 < nl := by
        have := HST.out.2
        rw [HN8.out, HNL.out] at this
        exact this
      replace hr6 := hr6.keep hb8
      replace hbx := below_step hbx hb8
      have HR : Hid (DivRel p Q w2 (.slice A8 n8 c8) (.slice A6 n6 c6) w8) := ⟨_, _, A6, A8, n6, n8, c6, c8, rfl, rfl, HN6, HN8, hc6, hc8, h6le, by omega, hr6, hr8, hbx, HST.out.1, plain_plain _, plain_plain _⟩
      clear hrl hr7 hr8 hr6 hb8 hbx HST
      go_wp2_with fail
      go_roundw
      case rel => exact HR.out
      case measure => simp [sliceLen]; omega
    · have i1 : ¬ (j1 : Int) + 1 ≤ (nl : Int) := by omega
      go_wp2_with fail
      refine (refplain_any a na A2 c2 _ HNA hra hca (by omega)).mono ?_
      rintro e w3 ⟨A3, n3, c3, rfl, HN3, hc3, hr3, hb3⟩
      rw [HE.out.2.1] at HN3 hr3
      go_wp2_with fail
      go_ret2
      refine ⟨a, l, A3, B2, n3, nl, c3, d2, rfl, HN3, HNL, hc3, hdl, hr3, hrl.keep hb3, below_step hB (below_step hbx hb3), ⟨?_, ?_⟩, HE.out.2.1, HE.out.2.2⟩
      · exact (add_congr (mul_congr (Eqv.refl a) HQe.out.symm) (Eqv.refl l)).trans HE.out.1
      · rw [HE.out.2.2, HNL.out, HQl.out]
        omega
end Go.Proofs.Ytojegpoilildaaa
