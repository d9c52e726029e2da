/-
  What the program's calls of layer 11 answer, over the landed code. No conditions but those typed.
-/
import Derived.Test.YtaknikbnajkccaaStuffGet
import Derived.Test.YtaknikbnajkccaaStuffBits
import Derived.Test.YtaknikbnajkccaaEqual
namespace Go.Proofs.Ytaknikbnajkccaa
set_option maxRecDepth 100000
open Go.RowKit
set_option linter.unusedSimpArgs false
set_option linter.unusedVariables false

/-- A call that hands back a list of bytes and an error. -/
def RetF (w : World) (l : List UInt8) (k : Int) (e : Ending) (w' : World) : Prop := ∃ A n c, e = .returned (.tuple #[.slice A n c, .int .i64 k]) ∧ Hid (l.length = n) ∧ n ≤ c ∧ Rd vB w' A l ∧ Below w.heap.size w w'
def mostN (n : Int) : Int := if 0 ≤ n ∧ n ≤ 1048576 then (8 * n + 6) / 7 else 0

/-! ### alike, group, Most -/
theorem alike_any (y : UInt8) (w : World) : Calls Try.prog 13 #[.int .u8 (y.toNat : Int)] w fun e w' => e = .returned (.bool (alikeT y)) ∧ w = w' := by
  have hy := y.toNat_lt
  have HE : Hid (alikeT y = decide (y.toNat / 2 = 0 ∨ y.toNat / 2 = 127)) := rfl
  rw [HE.out]
  clear HE
  generalize y.toNat = m at hy
  obtain ⟨q, hq⟩ : ∃ q, m / 2 = q := ⟨_, rfl⟩
  have e1 : (m : Int) / 2 = (q : Int) := by omega
  have e2 : (m : Int).tdiv 2 = (q : Int) := by rw [Int.tdiv_eq_ediv_of_nonneg (by omega)]; exact e1
  have e3 : IntKind.u8.wrap (q : Int) = (q : Int) := by rw [IntKind.wrap_u8']; omega
  have e4 : (q : Int) % 256 = (q : Int) := by omega
  rw [hq]
  by_cases h0 : q = 0
  · subst h0
    clear hq
    go_enter Try.func13, Try.ntmps13
    go_wp2_with fail
    go_ret
    exact ⟨rfl, rfl⟩
  · have h1 : ((q : Int) == 0) = false := beq_eq_false_iff_ne.2 (by omega)
    by_cases h7 : q = 127
    · subst h7
      clear hq h0
      go_enter Try.func13, Try.ntmps13
      go_wp2_with fail
      go_ret
      exact ⟨rfl, rfl⟩
    · have h2 : ((q : Int) == 127) = false := beq_eq_false_iff_ne.2 (by omega)
      have e : decide (q = 0 ∨ q = 127) = false := decide_eq_false (fun h => h.elim h0 h7)
      rw [e]
      clear hq h0 h7 e
      go_enter Try.func13, Try.ntmps13
      go_wp2_with fail
      go_ret
      exact ⟨rfl, rfl⟩
theorem gz_val : ∀ n : Nat, n < 256 → bits .or .u8 (bits .andNot .u8 (n : Int) 1) (1 - (n : Int) / 128) = (((n &&& 254) ||| (1 - n / 128) : Nat) : Int) := by decide +kernel
theorem group_any (y : UInt8) (w : World) : Calls Try.prog 16 #[.int .u8 (y.toNat : Int)] w fun e w' => e = .returned (.tuple #[.int .u8 ((gz y).toNat : Int), .int .i64 (gt y : Int)]) ∧ w = w' := by
  have HT := Lib.hid (g_table y.toNat y.toNat_lt)
  have HA := Lib.hid (alike_any y w)
  have hy := y.toNat_lt
  unfold Hid at HT
  rw [UInt8.ofNat_toNat] at HT
  obtain ⟨h1, h2, _⟩ := HT
  obtain ⟨b, hb⟩ : ∃ b, alikeT y = b := ⟨_, rfl⟩
  rw [hb] at HA h1 h2
  rw [h1, h2]
  clear h1 h2 hb
  have HZ := Lib.hid (gz_val y.toNat hy)
  generalize y.toNat = m at hy HA HZ
  cases b
  · go_enter Try.func16, Try.ntmps16
    go_wp2_with fail
    refine HA.out.mono ?_
    rintro e w1 ⟨rfl, rfl⟩
    go_wp2_with fail
    go_ret2
    exact ⟨rfl, rfl⟩
  · have hz := HZ.out
    obtain ⟨q, hq⟩ : ∃ q, m / 128 = q := ⟨_, rfl⟩
    have e1 : (m : Int) / 128 = (q : Int) := by omega
    rw [e1] at hz
    have e4 : (q : Int) % 256 = (q : Int) := by omega
    have e5 : (1 - (q : Int)) % 256 = 1 - (q : Int) := by omega
    simp only [if_true]
    generalize ((m &&& 254) ||| (1 - m / 128) : Nat) = z at hz ⊢
    clear hq
    go_enter Try.func16, Try.ntmps16
    go_wp2_with fail
    refine HA.out.mono ?_
    rintro e w1 ⟨rfl, rfl⟩
    go_wp2_with fail
    go_ret2
    exact ⟨rfl, rfl⟩
theorem mostF_any (n : Int) (w : World) (h1 : -9223372036854775808 ≤ n) (h2 : n ≤ 9223372036854775807) :
    Calls Try.prog 11 #[.int .i64 n] w fun e w' => e = .returned (.int .i64 (mostN n)) ∧ Below w.heap.size w w' := by
  unfold mostN
  by_cases h0 : n < 0
  · rw [if_neg (by omega)]
    go_enter Try.func11, Try.ntmps11
    go_wp2_with fail
    go_ret
    exact ⟨rfl, Below.refl _ _⟩
  · by_cases h3 : n > 1048576
    · rw [if_neg (by omega)]
      go_enter Try.func11, Try.ntmps11
      go_wp2_with fail
      go_ret
      exact ⟨rfl, Below.refl _ _⟩
    · rw [if_pos (by omega)]
      obtain ⟨r, hr⟩ : ∃ r, (8 * n + 6) / 7 = r := ⟨_, rfl⟩
      have e1 : (8 * n + 6).tdiv 7 = r := by rw [Int.tdiv_eq_ediv_of_nonneg (by omega)]; exact hr
      have e2 : wrap64 (8 * n) = 8 * n := by unfold wrap64; omega
      have e3 : wrap64 (8 * n + 6) = 8 * n + 6 := by unfold wrap64; omega
      have e4 : wrap64 r = r := by unfold wrap64; omega
      rw [hr]
      clear h1 h2
      go_enter Try.func11, Try.ntmps11
      go_wp2_with fail
      go_ret
      exact ⟨rfl, Below.refl _ _⟩
/-! ### Put -/
def PutV (b : List UInt8) (R : List Bool) (H : Nat) (w : World) (s l : Value) (wr : World) : Prop :=
  ∃ (O : List UInt8) (P : List Bool) (p : Nat), l = .int .i64 (p : Int) ∧ p ≤ 15 ∧ Hid (P.length = p) ∧ Hid (Holds H P) ∧ wr.ownsRow w.heap.size 5 1 s O.length (O.map vB) ∧ Hid (O ++ stuffL (P ++ R) = putT b) ∧ Below w.heap.size w wr
def PutU (b : List UInt8) (w : World) (s h l i : Value) (wr : World) : Prop :=
  ∃ (k H : Nat) (O : List UInt8) (P : List Bool) (p : Nat), k ≤ b.length ∧ i = .int .i64 (k : Int) ∧ h = .int .u64 (H : Int) ∧ H < 18446744073709551616 ∧ l = .int .i64 (p : Int) ∧ p ≤ 7 ∧ Hid (P.length = p) ∧ Hid (Holds H P) ∧ wr.ownsRow w.heap.size 5 1 s O.length (O.map vB) ∧ Hid (O ++ stuffL (P ++ bitsL (b.drop k)) = putT b) ∧ Below w.heap.size w wr
theorem held_more (H c : Nat) (hc : c < 256) : bits .or .u64 (IntKind.u64.wrap ((H : Int) * 256)) (c : Int) = (((H * 256 + c) % 18446744073709551616 : Nat) : Int) := by
  have e : IntKind.u64.wrap ((H : Int) * 256) = ((2 ^ 8 * (H % 72057594037927936) : Nat) : Int) := by
    rw [IntKind.wrap_u64]
    omega
  rw [e, u64_or_nat _ _ (by omega) (by omega), ← Nat.two_pow_add_eq_or_of_lt (by omega)]
  congr 1
  omega
theorem put_bound {O : List UInt8} {L : List Bool} {b : List UInt8} (h : O ++ stuffL L = putT b) (hb : b.length ≤ 10000) : O.length ≤ 12000 := by
  have h1 := congrArg List.length h
  rw [List.length_append] at h1
  have := (put_length b).2
  omega
theorem put_round {O : List UInt8} {P R : List Bool} {T : List UInt8} (y : UInt8) (p : Nat) (hp : P.length = p) (h8 : 8 ≤ p) (hy : y.toNat = (val8 (P.take 8)).toNat) (h : O ++ stuffL (P ++ R) = T) :
    (O ++ [gz y]) ++ stuffL (P.drop (gt y) ++ R) = T ∧ 7 ≤ gt y ∧ gt y ≤ 8 ∧ (P.drop (gt y)).length = p - gt y := by
  have ht : (P ++ R).take 8 = P.take 8 := List.take_append_of_le_length (by omega)
  obtain ⟨e1, e2⟩ := g_eq (P ++ R) y (val_take (P ++ R) (by rw [List.length_append]; omega) y (by rw [ht]; exact hy))
  have hb := taken_pos (P ++ R)
  rw [← e2] at hb
  refine ⟨?_, hb.1, hb.2, by rw [List.length_drop, hp]⟩
  rw [← h, stuff_cons (P ++ R) (fun e => by have := congrArg List.length e; rw [List.length_append, List.length_nil] at this; omega), ← e1, ← e2, List.drop_append_of_le_length (by omega), List.append_assoc]
  rfl
theorem put_end {O : List UInt8} {P : List Bool} {T : List UInt8} (y : UInt8) (p : Nat) (hp : P.length = p) (h0 : 0 < p) (h8 : p ≤ 7) (hy : y.toNat = (val8 (P ++ List.replicate (8 - P.length) true)).toNat) (h : O ++ stuffL (P ++ []) = T) :
    O ++ [gz y] = T := by
  rw [List.append_nil] at h
  obtain ⟨e1, e2⟩ := g_eq P y (val_last P (by omega) y hy)
  have hb := taken_pos P
  rw [← h, stuff_cons P (fun e => by rw [e] at hp; simp at hp; omega), ← e1, List.drop_of_length_le (by omega)]
  rfl
theorem held_last (H p : Nat) (hp : p ≤ 7) (v : Nat) (hv : ((H + 1) * 2 ^ (8 - p) - 1) % 256 = v) (a b c : Int) (ha : a = IntKind.u64.wrap ((H : Int) + 1)) (hb : b = IntKind.u64.wrap (a * 2 ^ (8 - p))) (hc : c = IntKind.u64.wrap (b - 1)) : c % 256 = (v : Int) := by
  rw [IntKind.wrap_u64] at ha hb hc
  have h1 : 1 ≤ (H + 1) * 2 ^ (8 - p) := Nat.mul_pos (Nat.succ_pos _) (Nat.two_pow_pos _)
  have e : (((H : Int) + 1) * 2 ^ (8 - p)) % 256 = (a * 2 ^ (8 - p)) % 256 := by
    have e1 : a = ((H : Int) + 1) - 18446744073709551616 * (((H : Int) + 1) / 18446744073709551616) := by omega
    rw [e1, Int.sub_mul, Int.mul_assoc 18446744073709551616]
    generalize ((H : Int) + 1) * 2 ^ (8 - p) = x
    generalize ((H : Int) + 1) / 18446744073709551616 * 2 ^ (8 - p) = r
    omega
  have e2 : (((H + 1) * 2 ^ (8 - p) : Nat) : Int) = ((H : Int) + 1) * 2 ^ (8 - p) := by rw [Int.natCast_mul, Int.natCast_pow]; rfl
  rw [← e2] at e
  generalize (H + 1) * 2 ^ (8 - p) = x at *
  omega
set_option maxHeartbeats 4000000 in
theorem putF_any (b : List UInt8) (n : Nat) (A : Option Addr) (c : Nat) (w : World) (HN : Hid (b.length = n)) (hr : Rd vB w A b) (hc : n ≤ c) (hn : n ≤ 10000) :
    Calls Try.prog 9 #[.slice A n c] w (RetY w (putT b)) := by
  obtain ⟨i0, hi, hz0, hz1, hz2⟩ := info_parts info_u8
  have e1 := HN.out
  subst e1
  go_enter Try.func9, Try.ntmps9
  go_wp2_with fail
  go_loopw [3, 4, 5, 14] (fun s h l i wr => PutU b w s h l i wr) (fun _ _ _ i _ => b.length - (intOf i).toNat)
  case atStart => exact ⟨0, 0, [], [], 0, Nat.zero_le _, rfl, rfl, by omega, rfl, by omega, rfl, Holds.nil 0, World.ownsRow_nil _ _ _ _, rfl, Below.refl _ _⟩
  case round =>
    obtain ⟨k, H, O, P, p, hk, rfl, rfl, hH, rfl, hp, HP, HH, hown, HO, hbel⟩ := hrel
    by_cases h : k < b.length
    · obtain ⟨g, o, rfl, hg, hcell⟩ := hr.at h
      have hc0 := (hbel.cell (p := ⟨g, o + k, none⟩) hg).trans (hcell k h)
      have HDR : Hid (b.drop k = b[k] :: b.drop (k + 1)) := List.drop_eq_getElem_cons h
      generalize b[k] = y at hc0 HDR
      have hy := y.toNat_lt
      have HM : Hid (Holds ((H * 256 + y.toNat) % 18446744073709551616) (P ++ bits8 y)) := by
        have := Holds.more HH.out (bits8 y) (by rw [HP.out]; show p + 8 ≤ 64; omega)
        rw [bits_num] at this
        exact this
      have HMO := Lib.hid (held_more H y.toNat hy)
      have HO' : Hid (O ++ stuffL ((P ++ bits8 y) ++ bitsL (b.drop (k + 1))) = putT b) := by
        have := HO.out
        rw [HDR.out] at this
        rw [List.append_assoc]
        exact this
      have hV : Hid (y.toNat = y.toNat) := rfl
      unfold vB at hc0
      generalize y.toNat = m at hy hc0 HM HMO
      obtain ⟨H', hH'⟩ : ∃ H', (H * 256 + m) % 18446744073709551616 = H' := ⟨_, rfl⟩
      have hHlt : H' < 18446744073709551616 := by omega
      rw [hH'] at HM HMO
      have hmo := HMO.out
      have HP' : Hid ((P ++ bits8 y).length = p + 8) := by unfold Hid; rw [List.length_append, HP.out]; rfl
      have k1 : (k : Int) < (b.length : Int) := by omega
      have k0 : (0 : Int) ≤ (k : Int) := by omega
      clear hcell hV hH' HMO HDR HO HH HP
      go_wp2_with fail
      go_loopw [3, 5] (fun s l wx => PutV b (bitsL (b.drop (k + 1))) H' w s l wx) (fun _ l _ => (intOf l).toNat)
      case atStart => exact ⟨O, P ++ bits8 y, p + 8, by go_num, by omega, HP', HM, hown, HO', hbel⟩
      case round =>
        clear hown hbel HO' HP' HM hc0 hp hmo
        obtain ⟨O, P, p, rfl, hp, HP, HH, hown, HO, hbel⟩ := hrel
        by_cases h8 : 8 ≤ p
        · have j8 : (8 : Int) ≤ (p : Int) := by omega
          have jw : IntKind.i64.wrap ((p : Int) - 8) = ((p - 8 : Nat) : Int) := by rw [IntKind.wrap_i64]; omega
          have j0 : (0 : Int) ≤ (p : Int) - 8 := by omega
          have hv0 := HH.out.top (by rw [HP.out]; exact h8)
          rw [HP.out] at hv0
          obtain ⟨y2, hy2⟩ : ∃ y2, val8 (P.take 8) = y2 := ⟨_, rfl⟩
          rw [hy2] at hv0
          obtain ⟨r1, r2, r3, r4⟩ := put_round y2 p HP.out h8 (by rw [hy2]) HO.out
          have hrest := HH.out.rest (gt y2)
          have hv : (H' : Int) / 2 ^ (p - 8) % 256 = (y2.toNat : Int) := by rw [← hv0, Int.natCast_emod, Int.natCast_ediv, Int.natCast_pow]; rfl
          have HR1 := Lib.hid r1
          have HR4 := Lib.hid r4
          have HRS := Lib.hid hrest
          have HBD := Lib.hid (put_bound HO.out hn)
          have HGA := Lib.hid fun W => group_any y2 W
          clear hv0 hy2 r1 r4 hrest
          go_wp2_with fail
          rw [hv]
          obtain ⟨hl, hhl⟩ : ∃ hl : Int, (H' : Int) / 2 ^ (p - 8) = hl := ⟨_, rfl⟩
          rw [hhl]
          clear hhl hv
          refine (HGA.out _).mono ?_
          rintro e w1 ⟨rfl, rfl⟩
          generalize gz y2 = z at HR1 HGA ⊢
          generalize gt y2 = q at r2 r3 HR1 HR4 HRS HGA ⊢
          have hsz := hbel.size
          have hb1 := HBD.out
          clear HGA HBD
          have jq : IntKind.i64.wrap ((p : Int) - (q : Int)) = (p : Int) - (q : Int) := by rw [IntKind.wrap_i64]; omega
          go_wp2_with (at_builtin; refine wpList_append_own _ rfl _ _ 22 rfl w.heap.size 5 i0 (.int .u8 0) 1 1 Try.underlying22 hi hz0 hz1 hz2 rfl (by decide) _ _ _ rfl (hown.alloc _) ⟨wr.heap.size, 0, none⟩ 1 1 [.int .u8 (z.toNat : Int)] rfl rfl (cell_one_new _ _ _) (by intro u hu; simp at hu; subst hu; rfl) (by unfold maxLen; omega) (by omega) (by simp; omega) ?_; intro v5 w5 hown5 hgrow5 _)
          have hB5 : Below w.heap.size w w5 := (hbel.alloc hbel.size _).grown hgrow5 (by simp; omega) (fun g hk => (hown.lt g hk).1)
          have HR : Hid (PutV b (bitsL (b.drop (k + 1))) H' w v5 (.int .i64 ((p : Int) - (q : Int))) w5) := ⟨O ++ [z], P.drop q, p - q, by congr 1; omega, by omega, HR4.out, HRS.out, by rw [List.length_append, List.map_append]; exact hown5, HR1.out, hB5⟩
          clear hown5 hgrow5 hown hB5 hbel
          go_wp2_with fail
          go_roundw
          case rel => exact HR.out
          case measure => simp [intOf] <;> omega
        · have j8 : ¬ (8 : Int) ≤ (p : Int) := by omega
          have HR : Hid (PutU b w u3 (.int .u64 (H' : Int)) (.int .i64 (p : Int)) (.int .i64 ((k : Int) + 1)) wr) := ⟨k + 1, H', O, P, p, h, by go_num, rfl, hHlt, rfl, by omega, HP, HH, hown, HO, hbel⟩
          clear hown hbel HO HH HP
          go_wp2_with fail
          go_roundw
          case rel => exact HR.out
          case measure => simp [intOf] <;> omega
    · have ek : k = b.length := by omega
      subst ek
      have HOE : Hid (O ++ stuffL (P ++ []) = putT b) := by
        have := HO.out
        rwa [List.drop_of_length_le (Nat.le_refl _)] at this
      clear HO
      by_cases hp0 : 0 < p
      · have k2 : (0 : Int) < (p : Int) := by omega
        have k3 : IntKind.i64.wrap (8 - (p : Int)) = ((8 - p : Nat) : Int) := by rw [IntKind.wrap_i64]; omega
        have k4 : (0 : Int) ≤ 8 - (p : Int) := by omega
        have hl0 := HH.out.last (by rw [HP.out]; omega)
        rw [HP.out] at hl0
        obtain ⟨y2, hy2⟩ : ∃ y2, val8 (P ++ List.replicate (8 - p) true) = y2 := ⟨_, rfl⟩
        rw [hy2] at hl0
        have HE := Lib.hid (put_end y2 p HP.out hp0 hp (by rw [HP.out, hy2]) HOE.out)
        have HBD := Lib.hid (put_bound HOE.out hn)
        have HGA := Lib.hid fun W => group_any y2 W
        obtain ⟨a1, ha1⟩ : ∃ a, IntKind.u64.wrap ((H : Int) + 1) = a := ⟨_, rfl⟩
        obtain ⟨a2, ha2⟩ : ∃ a, IntKind.u64.wrap (a1 * 2 ^ (8 - p)) = a := ⟨_, rfl⟩
        obtain ⟨a3, ha3⟩ : ∃ a, IntKind.u64.wrap (a2 - 1) = a := ⟨_, rfl⟩
        have hv := held_last H p hp _ hl0 a1 a2 a3 ha1.symm ha2.symm ha3.symm
        clear hl0 hy2 HOE HH HP
        go_wp2_with fail
        rw [hv]
        clear hv ha1 ha2 ha3
        refine (HGA.out _).mono ?_
        rintro e w1 ⟨rfl, rfl⟩
        generalize gz y2 = z at HE HGA ⊢
        generalize gt y2 = q at HGA ⊢
        have hsz := hbel.size
        have hb1 := HBD.out
        clear HGA HBD
        go_wp2_with (at_builtin; refine wpList_append_own _ rfl _ _ 22 rfl w.heap.size 5 i0 (.int .u8 0) 1 1 Try.underlying22 hi hz0 hz1 hz2 rfl (by decide) _ _ _ rfl (hown.alloc _) ⟨wr.heap.size, 0, none⟩ 1 1 [.int .u8 (z.toNat : Int)] rfl rfl (cell_one_new _ _ _) (by intro u hu; simp at hu; subst hu; rfl) (by unfold maxLen; omega) (by omega) (by simp; omega) ?_; intro v5 w5 hown5 hgrow5 _)
        have hB5 : Below w.heap.size w w5 := (hbel.alloc hbel.size _).grown hgrow5 (by simp; omega) (fun g hk => (hown.lt g hk).1)
        have HR : Hid (RetY w (putT b) (.returned v5) w5) := RetY.own (n := O.length + 1) (by rw [← HE.out, List.length_append]; rfl) (by rw [← HE.out, List.map_append]; exact hown5) hB5
        clear hown5 hgrow5 hown hB5 hbel
        go_wp2_with fail
        go_ret
        exact HR.out
      · have k2 : ¬ (0 : Int) < (p : Int) := by omega
        have ep : p = 0 := by omega
        subst ep
        have e0 : P = [] := List.eq_nil_of_length_eq_zero HP.out
        subst e0
        have HE : Hid (O = putT b) := by
          have := HOE.out
          rwa [List.append_nil, stuff_nil, List.append_nil] at this
        clear HOE
        go_wp2_with fail
        go_ret
        rw [← HE.out]
        exact RetY.own rfl hown hbel
/-! ### Get -/
def GetU (s : List UInt8) (w : World) (v h l i : Value) (wr : World) : Prop :=
  ∃ (k H : Nat) (O : List UInt8) (P : List Bool) (p : Nat), k ≤ s.length ∧ i = .int .i64 (k : Int) ∧ h = .int .u64 (H : Int) ∧ H < 18446744073709551616 ∧ l = .int .i64 (p : Int) ∧ p ≤ 7 ∧ Hid (P.length = p) ∧ Hid (Holds H P) ∧ wr.ownsRow w.heap.size 5 1 v O.length (O.map vB) ∧ Hid (O ++ cut8 (P ++ rawL (s.drop k)) = candL s) ∧ Below w.heap.size w wr
theorem held_seven (H c : Nat) (hc : c < 128) : bits .or .u64 (IntKind.u64.wrap ((H : Int) * 128)) (c : Int) = (((H * 128 + c) % 18446744073709551616 : Nat) : Int) := by
  have e : IntKind.u64.wrap ((H : Int) * 128) = ((2 ^ 7 * (H % 144115188075855872) : Nat) : Int) := by
    rw [IntKind.wrap_u64]
    omega
  rw [e, u64_or_nat _ _ (by omega) (by omega), ← Nat.two_pow_add_eq_or_of_lt (by omega)]
  congr 1
  omega
theorem seven_table : ∀ n, n < 256 → numB ((bits8 (UInt8.ofNat n)).take 7) = n / 2 := by decide +kernel
theorem seven_num (y : UInt8) : numB ((bits8 y).take 7) = y.toNat / 2 := by
  have := seven_table y.toNat y.toNat_lt
  rwa [UInt8.ofNat_toNat] at this
theorem get_round {O : List UInt8} {P R : List Bool} {T : List UInt8} (p : Nat) (hp : P.length = p) (h8 : 8 ≤ p) (h : O ++ cut8 (P ++ R) = T) :
    (O ++ [val8 (P.take 8)]) ++ cut8 (P.drop 8 ++ R) = T ∧ (P.drop 8).length = p - 8 := by
  refine ⟨?_, by rw [List.length_drop, hp]⟩
  rw [← h, cut_next (P ++ R) (by rw [List.length_append]; omega), List.take_append_of_le_length (by omega), List.drop_append_of_le_length (by omega), List.append_assoc]
  rfl
theorem get_bound {O : List UInt8} {L : List Bool} {s : List UInt8} (h : O ++ cut8 L = candL s) : O.length ≤ s.length := by
  have h1 := congrArg List.length h
  rw [List.length_append] at h1
  have h2 := cut_length _ (rawL s) (Nat.le_refl _)
  have h3 := raw_length_le s
  unfold candL at h1
  omega
set_option maxHeartbeats 4000000 in
theorem getF_any (s : List UInt8) (n : Nat) (A : Option Addr) (c : Nat) (w : World) (HN : Hid (s.length = n)) (hr : Rd vB w A s) (hc : n ≤ c) (hn : n ≤ 10000) :
    Calls Try.prog 7 #[.slice A n c] w (RetF w (if putT (candL s) = s then candL s else []) (if putT (candL s) = s then 0 else 3)) := by
  obtain ⟨i0, hi, hz0, hz1, hz2⟩ := info_parts info_u8
  have e1 := HN.out
  subst e1
  obtain ⟨LG, hLG⟩ : ∃ L, (if putT (candL s) = s then candL s else []) = L := ⟨_, rfl⟩
  obtain ⟨kg, hkg⟩ : ∃ k : Int, (if putT (candL s) = s then 0 else 3) = k := ⟨_, rfl⟩
  rw [hLG, hkg]
  have HLG := Lib.hid hLG
  have HKG := Lib.hid hkg
  clear hLG hkg
  go_enter Try.func7, Try.ntmps7
  go_wp2_with fail
  go_loopw [4, 5, 6, 12] (fun v h l i wr => GetU s w v h l i wr) (fun _ _ _ i _ => s.length - (intOf i).toNat)
  case atStart => exact ⟨0, 0, [], [], 0, Nat.zero_le _, rfl, rfl, by omega, rfl, by omega, rfl, Holds.nil 0, World.ownsRow_nil _ _ _ _, rfl, Below.refl _ _⟩
  case round =>
    obtain ⟨k, H, O, P, p, hk, rfl, rfl, hH, rfl, hp, HP, HH, hown, HO, hbel⟩ := hrel
    by_cases h : k < s.length
    · obtain ⟨g, o, rfl, hg, hcell⟩ := hr.at h
      have hc0 := (hbel.cell (p := ⟨g, o + k, none⟩) hg).trans (hcell k h)
      have HDR : Hid (s.drop k = s[k] :: s.drop (k + 1)) := List.drop_eq_getElem_cons h
      generalize s[k] = y at hc0 HDR
      have hy := y.toNat_lt
      have k1 : (k : Int) < (s.length : Int) := by omega
      have k0 : (0 : Int) ≤ (k : Int) := by omega
      have HA := Lib.hid (alike_any y wr)
      have hraw := (g_table y.toNat hy).2.2
      rw [UInt8.ofNat_toNat] at hraw
      obtain ⟨b, hb⟩ : ∃ b, alikeT y = b := ⟨_, rfl⟩
      rw [hb] at HA hraw
      clear hb hcell
      have HO1 : Hid (O ++ cut8 ((P ++ rawG y) ++ rawL (s.drop (k + 1))) = candL s) := by
        have := HO.out
        rw [HDR.out] at this
        rw [List.append_assoc]
        exact this
      clear HO HDR
      unfold vB at hc0
      cases b
      · have hraw2 : rawG y = bits8 y := hraw
        rw [hraw2] at HO1
        have HM : Hid (Holds ((H * 256 + y.toNat) % 18446744073709551616) (P ++ bits8 y)) := by
          have := Holds.more HH.out (bits8 y) (by rw [HP.out]; show p + 8 ≤ 64; omega)
          rw [bits_num] at this
          exact this
        have hmo := held_more H y.toNat hy
        generalize y.toNat = m at hy hc0 HM hmo HA
        obtain ⟨H', hH'⟩ : ∃ H', (H * 256 + m) % 18446744073709551616 = H' := ⟨_, rfl⟩
        have hHlt : H' < 18446744073709551616 := by omega
        rw [hH'] at HM hmo
        have HP' : Hid ((P ++ bits8 y).length = p + 8) := by unfold Hid; rw [List.length_append, HP.out]; rfl
        clear hH' HH HP hraw hraw2
        generalize P ++ bits8 y = P' at HM HO1 HP'
        obtain ⟨r1, r4⟩ := get_round (p + 8) HP'.out (by omega) HO1.out
        have hv0 := HM.out.top (by rw [HP'.out]; omega)
        have hrest := HM.out.rest 8
        rw [HP'.out, show p + 8 - 8 = p by omega] at hv0
        rw [show p + 8 - 8 = p by omega] at r4
        generalize val8 (P'.take 8) = z at hv0 r1
        have hv : (H' : Int) / 2 ^ p % 256 = (z.toNat : Int) := by rw [← hv0, Int.natCast_emod, Int.natCast_ediv, Int.natCast_pow]; rfl
        have HBD := Lib.hid (get_bound HO1.out)
        have HR1 := Lib.hid r1
        have HR4 := Lib.hid r4
        have HRS := Lib.hid hrest
        clear hv0 r1 r4 hrest HO1 HM HP'
        generalize P'.drop 8 = P'' at HR1 HR4 HRS
        have hb1 := HBD.out
        have hsz := hbel.size
        clear HBD
        go_wp2_with fail
        refine HA.out.mono ?_
        rintro e w1 ⟨rfl, rfl⟩
        have j8 : (8 : Int) ≤ (p : Int) + 8 := by omega
        go_wp2_with (at_builtin; refine wpList_append_own _ rfl _ _ 22 rfl w.heap.size 5 i0 (.int .u8 0) 1 1 Try.underlying22 hi hz0 hz1 hz2 rfl (by decide) _ _ _ rfl (hown.alloc _) ⟨wr.heap.size, 0, none⟩ 1 1 [.int .u8 (z.toNat : Int)] rfl rfl (cell_one_new _ _ _) (by intro u hu; simp at hu; subst hu; rfl) (by unfold maxLen; omega) (by omega) (by simp; omega) ?_; intro v5 w5 hown5 hgrow5 _)
        have hB5 : Below w.heap.size w w5 := (hbel.alloc hbel.size _).grown hgrow5 (by simp; omega) (fun g hk => (hown.lt g hk).1)
        have HR : Hid (GetU s w v5 (.int .u64 (H' : Int)) (.int .i64 (p : Int)) (.int .i64 ((k : Int) + 1)) w5) := ⟨k + 1, H', O ++ [z], P'', p, h, by go_num, rfl, hHlt, rfl, hp, HR4, HRS, by rw [List.length_append, List.map_append]; exact hown5, HR1, hB5⟩
        clear hown5 hgrow5 hown hB5 hbel
        go_wp2_with fail
        go_roundw
        case rel => exact HR.out
        case measure => simp [intOf] <;> omega
      · have hraw2 : rawG y = (bits8 y).take 7 := hraw
        rw [hraw2] at HO1
        have h7l : ((bits8 y).take 7).length = 7 := rfl
        have HM : Hid (Holds ((H * 128 + y.toNat / 2) % 18446744073709551616) (P ++ (bits8 y).take 7)) := by
          have := Holds.more HH.out ((bits8 y).take 7) (by rw [HP.out, h7l]; omega)
          rw [seven_num, h7l] at this
          exact this
        have hmo := held_seven H (y.toNat / 2) (by omega)
        generalize y.toNat = m at hy hc0 HM hmo HA
        obtain ⟨m2, hm2⟩ : ∃ m2, m / 2 = m2 := ⟨_, rfl⟩
        have e1 : (m : Int) / 2 = (m2 : Int) := by omega
        have e2 : (m2 : Int) % 256 = (m2 : Int) := by omega
        have e3 : IntKind.u8.wrap (m2 : Int) = (m2 : Int) := by rw [IntKind.wrap_u8']; omega
        rw [hm2] at HM hmo
        obtain ⟨H', hH'⟩ : ∃ H', (H * 128 + m2) % 18446744073709551616 = H' := ⟨_, rfl⟩
        have hHlt : H' < 18446744073709551616 := by omega
        rw [hH'] at HM hmo
        have HP' : Hid ((P ++ (bits8 y).take 7).length = p + 7) := by unfold Hid; rw [List.length_append, HP.out]; rfl
        clear hH' HH HP hraw hraw2 hm2
        generalize P ++ (bits8 y).take 7 = P' at HM HO1 HP'
        by_cases h0 : 1 ≤ p
        · obtain ⟨q, rfl⟩ : ∃ q, p = q + 1 := ⟨p - 1, by omega⟩
          obtain ⟨r1, r4⟩ := get_round (q + 1 + 7) HP'.out (by omega) HO1.out
          have hv0 := HM.out.top (by rw [HP'.out]; omega)
          have hrest := HM.out.rest 8
          rw [HP'.out, show q + 1 + 7 - 8 = q by omega] at hv0
          rw [show q + 1 + 7 - 8 = q by omega] at r4
          generalize val8 (P'.take 8) = z at hv0 r1
          have hv : (H' : Int) / 2 ^ q % 256 = (z.toNat : Int) := by rw [← hv0, Int.natCast_emod, Int.natCast_ediv, Int.natCast_pow]; rfl
          have HBD := Lib.hid (get_bound HO1.out)
          have HR1 := Lib.hid r1
          have HR4 := Lib.hid r4
          have HRS := Lib.hid hrest
          clear hv0 r1 r4 hrest HO1 HM HP'
          generalize P'.drop 8 = P'' at HR1 HR4 HRS
          have hb1 := HBD.out
          have hsz := hbel.size
          clear HBD
          obtain ⟨p, hpq⟩ : ∃ p : Int, (q : Int) + 1 = p := ⟨_, rfl⟩
          have ep : ((q + 1 : Nat) : Int) = p := by omega
          rw [ep]
          have j1 : p + 7 - 8 = (q : Int) := by omega
          have j2 : IntKind.i64.wrap (p + 7) = p + 7 := by rw [IntKind.wrap_i64]; omega
          have j3 : IntKind.i64.wrap (q : Int) = (q : Int) := by rw [IntKind.wrap_i64]; omega
          have j8 : (8 : Int) ≤ p + 7 := by omega
          clear ep hpq
          go_wp2_with fail
          refine HA.out.mono ?_
          rintro e w1 ⟨rfl, rfl⟩
          go_wp2_with (at_builtin; refine wpList_append_own _ rfl _ _ 22 rfl w.heap.size 5 i0 (.int .u8 0) 1 1 Try.underlying22 hi hz0 hz1 hz2 rfl (by decide) _ _ _ rfl (hown.alloc _) ⟨wr.heap.size, 0, none⟩ 1 1 [.int .u8 (z.toNat : Int)] rfl rfl (cell_one_new _ _ _) (by intro u hu; simp at hu; subst hu; rfl) (by unfold maxLen; omega) (by omega) (by simp; omega) ?_; intro v5 w5 hown5 hgrow5 _)
          have hB5 : Below w.heap.size w w5 := (hbel.alloc hbel.size _).grown hgrow5 (by simp; omega) (fun g hk => (hown.lt g hk).1)
          have HR : Hid (GetU s w v5 (.int .u64 (H' : Int)) (.int .i64 (q : Int)) (.int .i64 ((k : Int) + 1)) w5) := ⟨k + 1, H', O ++ [z], P'', q, h, by go_num, rfl, hHlt, rfl, by omega, HR4, HRS, by rw [List.length_append, List.map_append]; exact hown5, HR1, hB5⟩
          clear hown5 hgrow5 hown hB5 hbel
          go_wp2_with fail
          go_roundw
          case rel => exact HR.out
          case measure => simp [intOf] <;> omega
        · have ep : p = 0 := by omega
          subst ep
          have HR : Hid (GetU s w u4 (.int .u64 (H' : Int)) (.int .i64 7) (.int .i64 ((k : Int) + 1)) wr) := ⟨k + 1, H', O, P', 7, h, by go_num, rfl, hHlt, rfl, by omega, HP', HM, hown, HO1, hbel⟩
          clear hown hbel HO1 HM HP'
          go_wp2_with fail
          refine HA.out.mono ?_
          rintro e w1 ⟨rfl, rfl⟩
          go_wp2_with fail
          go_roundw
          case rel => exact HR.out
          case measure => simp [intOf] <;> omega
    · have ek : k = s.length := by omega
      subst ek
      have HE : Hid (O = candL s) := by
        have := HO.out
        rw [List.drop_of_length_le (Nat.le_refl _)] at this
        rw [← this]
        show O = O ++ cut8 (P ++ [])
        rw [List.append_nil, cut_short P (by rw [HP.out]; omega), List.append_nil]
      have hb1 : O.length ≤ s.length := get_bound HO.out
      clear HO HP HH
      obtain ⟨A1, c1, rfl, hc1⟩ := own_form hown
      have hr1 := Rd.own hown
      rw [← HE.out] at HLG HKG
      clear HE
      have HB := Lib.hid hbel
      clear hown hbel
      have k1 : ¬ (s.length : Int) < (s.length : Int) := by omega
      go_wp2_with fail
      refine (putF_any O O.length A1 c1 _ (Lib.hid rfl) hr1 hc1 (by omega)).mono ?_
      rintro e w2 ⟨A2, n2, c2, rfl, HN2, hc2, hr2, hb2⟩
      have hr3 := hr1.keep hb2
      have hs2 := (hr.keep HB.out).keep hb2
      have HB2 := Lib.hid (below_step HB.out hb2)
      have HEQ := Lib.hid (equal_any (putT O) s n2 s.length A2 A c2 c w2 HN2 (Lib.hid rfl) hr2 hs2)
      clear hr2 hs2 hb2 hr1 HB
      go_wp2_with fail
      refine HEQ.out.mono ?_
      rintro e w3 ⟨rfl, rfl⟩
      by_cases hq : putT O = s
      · have hd : decide (putT O = s) = true := decide_eq_true hq
        have HL : Hid (LG = O) := by unfold Hid; rw [← HLG.out, if_pos hq]
        have HK : Hid (kg = 0) := by unfold Hid; rw [← HKG.out, if_pos hq]
        have hk := HK.out
        subst hk
        have hl := HL.out
        subst hl
        rw [hd]
        clear HLG HKG hq hd HEQ
        go_wp2_with fail
        go_ret2
        exact ⟨A1, _, c1, rfl, Lib.hid rfl, hc1, hr3, HB2.out⟩
      · have hd : decide (putT O = s) = false := decide_eq_false hq
        have HL : Hid (LG = []) := by unfold Hid; rw [← HLG.out, if_neg hq]
        have HK : Hid (kg = 3) := by unfold Hid; rw [← HKG.out, if_neg hq]
        have hk := HK.out
        subst hk
        have hl := HL.out
        subst hl
        rw [hd]
        clear HLG HKG hq hd HEQ
        go_wp2_with fail
        go_ret2
        exact ⟨none, 0, 0, rfl, Lib.hid rfl, Nat.le_refl _, Rd.nil, HB2.out⟩
theorem getF_ok (s : List UInt8) (n : Nat) (A : Option Addr) (c : Nat) (w : World) (HN : Hid (s.length = n)) (hr : Rd vB w A s) (hc : n ≤ c) (hn : n ≤ 10000) (H : Hid (putT (candL s) = s)) :
    Calls Try.prog 7 #[.slice A n c] w (RetF w (candL s) 0) := by
  have h := getF_any s n A c w HN hr hc hn
  rwa [if_pos H.out, if_pos H.out] at h
theorem getF_no (s : List UInt8) (n : Nat) (A : Option Addr) (c : Nat) (w : World) (HN : Hid (s.length = n)) (hr : Rd vB w A s) (hc : n ≤ c) (hn : n ≤ 10000) (H : Hid (putT (candL s) ≠ s)) :
    Calls Try.prog 7 #[.slice A n c] w (RetF w [] 3) := by
  have h := getF_any s n A c w HN hr hc hn
  rwa [if_neg H.out, if_neg H.out] at h
end Go.Proofs.Ytaknikbnajkccaa
