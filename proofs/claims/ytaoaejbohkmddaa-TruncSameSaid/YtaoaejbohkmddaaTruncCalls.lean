/-
  What the program's calls of layer 4 answer: Code, Digits, Unlike (and its unlike), Same. No conditions but those typed.
-/
import Derived.Test.YtaoaejbohkmddaaTruncRef
import Derived.Test.YtaoaejbohkmddaaOwn
import Derived.Deep.QuietTactic
namespace Go.Proofs.Ytaoaejbohkmddaa
open Go.RowKit
set_option linter.unusedSimpArgs false
set_option linter.unusedVariables false

theorem wordsL_four (M : List UInt8) (h : M.length = 4) : wordsL M = [UInt32.ofNat (valN M)] := by
  match M, h with
  | [a, b, c, d], _ => rfl
theorem words_four (M : List UInt8) (A : Option Addr) (cap : Nat) (w : World) (v : Nat) (HM : Hid (M.length = 4)) (HV : Hid (valN M = v)) (hr : Rd vB w A M) (hc : 4 ≤ cap) :
    Calls Try.prog 14 #[.slice A 4 cap] w fun e w' => ∃ b o c, e = .returned (.slice (some ⟨b, o, none⟩) 1 c) ∧ w'.cell? ⟨b, o, none⟩ = some (.int .u32 (v : Int)) ∧ Below w.heap.size w w' := by
  have e := HM.out
  have h := words_any M A cap w hr (by omega) (by omega)
  rw [e] at h
  refine h.mono ?_
  rintro e' w' ⟨A', c, rfl, _, hr', hb⟩
  rw [wordsL_four M e] at hr' ⊢
  obtain ⟨b, o, rfl, _, hcell⟩ := hr'.at (k := 0) (by simp)
  refine ⟨b, o, c, rfl, ?_, hb⟩
  have := hcell 0 (by simp)
  rw [Nat.add_zero] at this
  rw [this]
  have hv := valN_lt M
  rw [e, HV.out] at hv
  simp only [List.getElem_cons_zero, vW, HV.out, UInt32.toNat_ofNat']
  rw [Nat.mod_eq_of_lt (by omega)]

set_option maxHeartbeats 1000000 in
theorem code_any (n : Nat) (tag : List UInt8) (z : Nat) (u : Int) (A : Option Addr) (c : Nat) (w : World) (HZ : Hid (codeR tag = (z, u))) (HN : Hid (tag.length = n)) (hr : Rd vB w A tag) (hc : n ≤ c) (hl : n ≤ 9223372036854775807) :
    Calls Try.prog 7 #[.slice A n c] w fun e w' => e = .returned (.tuple #[.int .u32 (z : Int), .int .i64 u]) ∧ Below w.heap.size w w' := by
  by_cases h19 : n < 19
  · have HE : codeR tag = (0, 2) := codeR_short tag (by rw [HN.out]; exact h19)
    have e := HZ.out
    rw [HE] at e
    injection e with e1 e2
    subst e1 e2
    have h : (n : Int) < 19 := by omega
    go_enter Try.func7, Try.ntmps7
    go_wp2_with fail
    go_ret2
    exact ⟨rfl, Below.refl _ _⟩
  · have HE : codeR tag = (codeN tag, 0) := codeR_long tag (by rw [HN.out]; exact h19)
    have e := HZ.out
    rw [HE] at e
    injection e with e1 e2
    subst e2
    have HE1 := Lib.hid e1
    clear e1 HE
    obtain ⟨m, rfl⟩ : ∃ m, n = m + 1 := ⟨n - 1, by omega⟩
    have hm : m < tag.length := by rw [HN.out]; omega
    obtain ⟨blk, o, rfl, hb, hcell⟩ := hr.at hm
    have hc0 : w.cell? ⟨blk, o + m, none⟩ = some (.int .u8 (tag[m].toNat : Int)) := hcell m hm
    have hat : codeAt tag = tag[m].toNat % 16 := by
      unfold codeAt
      rw [HN.out, Nat.add_sub_cancel, List.getD_eq_getElem?_getD, List.getElem?_eq_getElem hm]
      rfl
    obtain ⟨q, hq⟩ : ∃ q, q = codeAt tag := ⟨_, rfl⟩
    have hq16 : q < 16 := by rw [hq]; exact codeAt_lt tag
    obtain ⟨M, hM⟩ : ∃ M, M = (tag.drop q).take 4 := ⟨_, rfl⟩
    have HC : Hid (z = valN M % 2147483648) := by
      unfold Hid
      rw [← HE1.out]
      unfold codeN
      rw [hM, hq]
    have hMl : M.length = 4 := by rw [hM, List.length_take, List.length_drop, HN.out]; omega
    have hmid := hr.mid q (q + 4) c (by rw [HN.out]; exact hc)
    rw [if_neg (by omega), show q + 4 - q = 4 by omega, ← hM] at hmid
    have e1 : (some (⟨blk, o, none⟩ : Addr)).map (·.add (q * 1)) = some ⟨blk, o + q, none⟩ := by
      simp only [Option.map_some, Nat.mul_one, Addr.add]
      split <;> simp_all
    rw [e1] at hmid
    have hsl : ∀ W, (Instr.slice 22 (.slice (some ⟨blk, o, none⟩) (m + 1) c) (some (.int .u8 (q : Int))) (some (.int .u8 ((q : Int) + 4))) none).run Try.prog W = .ok (.slice (some ⟨blk, o + q, none⟩) 4 (c - q)) W := fun W => by
      have he : Try.prog.elem 22 = 5 := by simp [Program.elem, Try.underlying22]
      rw [run_slice_lh W 22 (some ⟨blk, o, none⟩) (m + 1) c (by rw [he]; exact Try.underlying22) .u8 .u8 (q : Int) ((q : Int) + 4) (by omega) (by omega) (by omega), he, size_uint8]
      simp only [Result.andThen, sliced, Int.toNat_natCast]
      rw [if_neg (by omega), e1, show ((q : Int) + 4).toNat - q = 4 by omega]
    have hq2 : (tag[m].toNat : Int) % 16 = (q : Int) := by rw [hq, hat]; omega
    have hv := valN_lt M
    rw [hMl] at hv
    have hq3 : IntKind.u8.wrap (q : Int) = (q : Int) := by rw [IntKind.wrap_u8']; omega
    have hq4 : IntKind.u8.wrap ((q : Int) + 4) = (q : Int) + 4 := by rw [IntKind.wrap_u8']; omega
    have i1 : ¬ (m : Int) + 1 < 19 := by omega
    have i2 : (m : Int) + 1 ≤ 9223372036854775807 := by omega
    have HM4 := Lib.hid hMl
    have hq0 : (0 : Int) ≤ (q : Int) := by omega
    generalize tag[m] = y at hc0 hq2
    clear hcell hat hq hM e1 hMl h19
    have HV := Lib.hid hv
    clear hv
    go_enter Try.func7, Try.ntmps7
    go_wp2_with fail
    refine (words_four M _ _ _ (valN M) HM4 (Lib.hid rfl) hmid (by omega)).mono ?_
    rintro e w' ⟨b1, o1, c1, rfl, hc1, hb1⟩
    obtain ⟨v, hv⟩ : ∃ v, v = valN M := ⟨_, rfl⟩
    rw [← hv] at HC HV hc1
    clear hv
    have z1 : (v : Int) % 2147483648 = (z : Int) := by have := HC.out; omega
    have v1 : (v : Int) < 4294967296 := by have := HV.out; omega
    clear HC
    go_wp2_with fail
    go_ret2
    exact ⟨ret_int2 z1 rfl, hb1⟩

/-! ### Digits -/
theorem digits_bad (code : Nat) (n : Int) (w : World) (h : n < 1 ∨ 9 < n) :
    Calls Try.prog 9 #[.int .u32 (code : Int), .int .i64 n] w fun e w' => e = .returned (.tuple #[.string ByteArray.empty, .int .i64 1]) ∧ Below w.heap.size w w' := by
  by_cases h1 : n < 1
  · go_enter Try.func9, Try.ntmps9
    go_wp2_with fail
    go_ret2
    exact ⟨rfl, Below.refl _ _⟩
  · have h9 : 9 < n := by omega
    go_enter Try.func9, Try.ntmps9
    go_wp2_with fail
    go_ret2
    exact ⟨rfl, Below.refl _ _⟩

def DRel (code n : Nat) (w : World) (c i : Value) (wr : World) : Prop :=
  ∃ (q k : Nat) (j : Int) (X : List Value), q + k = n ∧ j + 1 = (q : Int) ∧ X.length = q ∧ i = .int .i64 j ∧ c = .int .u32 ((code / 10 ^ k : Nat) : Int) ∧ Row wr w.heap.size 5 (X ++ (digL code k).map vB) ∧ Below w.heap.size w wr

theorem make_bytes (n : Nat) (hn : n ≤ 1000000) : ∃ X : List Value, X.length = n ∧ ∀ w, (Instr.makeSlice 22 (.int .i64 (n : Int)) (.int .i64 (n : Int))).run Try.prog w = .ok (.slice (some ⟨w.heap.size, 0, none⟩) n n) (w.alloc (.cells X.toArray 5)) := by
  obtain ⟨i0, hi, hz0, hz1, hz2⟩ := info_parts info_u8
  refine ⟨(madeCells (Value.int .u8 0).cells (n * i0.size)).toList, ?_, fun w => ?_⟩
  · rw [hz1, Nat.mul_one, Array.length_toList, size_madeCells]
  · have := run_makeSlice (P := Try.prog) (w := w) 22 5 i0 (.int .u8 0) Try.underlying22 hi hz0 .i64 .i64 (n : Int) (n : Int) (by omega) (Int.le_refl _) (by rw [hz1]; omega) (by rw [hz2]; omega) (by omega)
    simpa using this

set_option maxRecDepth 100000 in
theorem digits_good (code n : Nat) (w : World) (hc : code < 4294967296) (h1 : 1 ≤ n) (h9 : n ≤ 9) :
    Calls Try.prog 9 #[.int .u32 (code : Int), .int .i64 (n : Int)] w fun e w' => e = .returned (.tuple #[.string (strL (digL code n)), .int .i64 0]) ∧ Below w.heap.size w w' := by
  have i1 : ¬ (n : Int) < 1 := by omega
  have i2 : ¬ (9 : Int) < (n : Int) := by omega
  obtain ⟨X, hX, hmk⟩ := make_bytes n (by omega)
  go_enter Try.func9, Try.ntmps9
  go_wp2_with fail
  clear i1 i2 hmk
  have hR0 : Row (w.alloc (.cells X.toArray 5)) w.heap.size 5 X := Row.new w _ _ _ rfl
  have hB0 : Below w.heap.size w (w.alloc (.cells X.toArray 5)) := below_new (Below.refl _ _) _
  go_loopw [0, 7] (fun c i wr => DRel code n w c i wr) (fun _ i _ => (intOf i + 1).toNat)
  case atStart => exact ⟨n, 0, (n : Int) - 1, X, by omega, by omega, hX, rfl, by simp, by simpa [digL] using hR0, hB0⟩
  case round =>
    clear hR0 hB0 hX
    obtain ⟨q, k, j, X, hqk, hj, hX, rfl, rfl, hR, hB⟩ := hrel
    cases q with
    | succ p =>
      have e1 : j = (p : Int) := by omega
      subst e1
      obtain ⟨Y, v0, rfl⟩ : ∃ Y v0, X = Y ++ [v0] := ⟨X.dropLast, X.getLast (by intro e; rw [e] at hX; simp at hX), by rw [List.dropLast_concat_getLast]⟩
      have hY : Y.length = p := by simpa using hX
      have hx := digB_toNat code k
      have hle : code / 10 ^ k ≤ code := Nat.div_le_self _ _
      have hdiv : ((code / 10 ^ k : Nat) : Int) / 10 = ((code / 10 ^ (k + 1) : Nat) : Int) := by rw [Nat.pow_succ, ← Nat.div_div_eq_div_mul]; omega
      have hset : ((Y ++ [v0]) ++ (digL code k).map vB).set p (vB (digB code k)) = Y ++ (digL code (k + 1)).map vB := by
        rw [List.append_assoc, List.set_append_right _ _ (by omega), hY, Nat.sub_self]
        rfl
      have hRs := hR.setCell p (vB (digB code k))
      rw [hset] at hRs
      have hc0 : wr.cell? ⟨w.heap.size, p, none⟩ = some v0 := hR.cell (by rw [List.append_assoc, List.getElem?_append_right (by omega), hY, Nat.sub_self]; rfl)
      have hfz : wr.frozen? ⟨w.heap.size, p, none⟩ = false := hR.frozen _
      have HRel : Hid (DRel code n w (.int .u32 ((code / 10 ^ (k + 1) : Nat) : Int)) (.int .i64 ((p : Int) - 1)) (wr.setCell ⟨w.heap.size, p, none⟩ (.int .u8 ((digB code k).toNat : Int)))) :=
        ⟨p, k + 1, (p : Int) - 1, Y, by omega, by omega, hY, rfl, rfl, hRs, hB.setCell (by simp) _⟩
      generalize digB code k = x at HRel hx
      generalize code / 10 ^ k = cc at hx hle hdiv ⊢
      generalize code / 10 ^ (k + 1) = c2 at hdiv HRel
      obtain ⟨r, hr⟩ : ∃ r, r = cc % 10 := ⟨_, rfl⟩
      have hmod : (cc : Int) % 10 = (r : Int) := by omega
      have hxx : (48 : Int) + (r : Int) = (x.toNat : Int) := by omega
      have hx8 : x.toNat < 256 := x.toNat_lt
      have hw1 : IntKind.u8.wrap (r : Int) = (r : Int) := by rw [IntKind.wrap_u8']; omega
      have hw2 : IntKind.u8.wrap (x.toNat : Int) = (x.toNat : Int) := by rw [IntKind.wrap_u8']; omega
      have i0 : (0 : Int) ≤ (p : Int) := by omega
      have i1 : (p : Int) < (n : Int) := by omega
      have hcw : (cc : Int) < 4294967296 := by omega
      have hr0 : (0 : Int) ≤ (r : Int) := by omega
      have hr10 : (r : Int) < 10 := by omega
      clear hx hB hle hr hR hRs hset hX hj
      go_wp2_with fail
      go_roundw
      case rel => exact HRel.out
      case measure => simp [intOf] <;> omega
    | zero =>
      have e1 : j = -1 := by omega
      have e2 : k = n := by omega
      subst e1 e2
      have e3 : X = [] := List.eq_nil_of_length_eq_zero hX
      subst e3
      rw [List.nil_append] at hR
      have hcv : (convert 22 9 (.slice (some ⟨w.heap.size, 0, none⟩) k k)).run Try.prog wr = .ok (.string (strL (digL code k))) wr := run_str _ _ _ _ Try.underlying22 Try.underlying5 Try.underlying9 _ (digL code k) k k (digL_length code k) hR.rd
      clear hR
      go_wp2_with fail
      go_ret2
      exact ⟨rfl, hB⟩

/-! ### Unlike -/
theorem unlike_one (x y : UInt8) (w : World) :
    Calls Try.prog 16 #[.int .u8 (x.toNat : Int), .int .u8 (y.toNat : Int)] w fun e w' => e = .returned (.int .i64 ((if x = y then 0 else 1 : Nat) : Int)) ∧ w = w' := by
  have hx := u8_xor_b x y
  have hz : (((xorB x y).toNat : Int) + 255) / 256 = ((if x = y then 0 else 1 : Nat) : Int) := by
    have h8 : (xorB x y).toNat < 256 := (xorB x y).toNat_lt
    by_cases h : x = y
    · subst h
      rw [if_pos rfl]
      have : xorB x x = 0 := UInt8.xor_self
      rw [this]
      rfl
    · rw [if_neg h]
      have : (xorB x y).toNat ≠ 0 := fun e => h (by
        have e0 : x ^^^ y = 0 := UInt8.toNat_inj.1 e
        exact UInt8.xor_eq_zero_iff.1 e0)
      omega
  have h8 : (xorB x y).toNat < 256 := (xorB x y).toNat_lt
  generalize (if x = y then 0 else 1 : Nat) = d at hz ⊢
  generalize xorB x y = t at hx hz h8
  go_enter Try.func16, Try.ntmps16
  go_wp2_with fail
  go_ret
  exact ⟨rfl, rfl⟩

def URel (a b : List UInt8) (w : World) (n i : Value) (wr : World) : Prop :=
  ∃ k : Nat, k ≤ a.length ∧ i = .int .i64 (k : Int) ∧ n = .int .i64 (((b.length - a.length) + unlikeL (a.take k) (b.take k) : Nat) : Int) ∧ Below w.heap.size w wr
theorem unlike_more : ∀ a b : List UInt8, a.length ≤ b.length → unlikeL a b = (b.length - a.length) + unlikeL a (b.take a.length)
  | [], b, _ => by simp [unlikeL]
  | x :: a, [], h => by simp at h
  | x :: a, y :: b, h => by
    have ih := unlike_more a b (by simpa using h)
    rw [List.length_cons, List.length_cons, List.take_succ_cons, unlikeL, unlikeL, ih]
    omega

set_option maxHeartbeats 1000000 in
theorem unlike_up (a b : List UInt8) (A B : Option Addr) (c d : Nat) (w : World) (ha : Rd vB w A a) (hb : Rd vB w B b) (hle : a.length ≤ b.length) (hbl : b.length ≤ 1000000000) :
    Calls Try.prog 12 #[.slice A a.length c, .slice B b.length d] w fun e w' => e = .returned (.int .i64 (unlikeL a b : Int)) ∧ Below w.heap.size w w' := by
  have g0 : ¬ b.length < a.length := by omega
  have s0 : (b.length : Int) - (a.length : Int) = ((b.length - a.length : Nat) : Int) := by omega
  have HM := Lib.hid (unlike_more a b (by omega))
  have s1 : b.length - a.length ≤ 1000000000 := by omega
  go_enter Try.func12, Try.ntmps12
  go_wp2_with fail
  clear s0
  go_loopw [5, 21] (fun n i wr => URel a b w n i wr) (fun _ i _ => a.length - (intOf i).toNat)
  case atStart => exact ⟨0, Nat.zero_le _, rfl, by simp [unlikeL], Below.refl _ _⟩
  case round =>
    obtain ⟨k, hk, rfl, rfl, hB⟩ := hrel
    have hu := unlike_le (a.take k) (b.take k)
    rw [List.length_take, List.length_take] at hu
    by_cases h1 : k < a.length
    · have h2 : k < b.length := by omega
      have HT := Lib.hid (unlike_take a b k (.inl h1))
      obtain ⟨bl1, o1, rfl, hb1, hcell1⟩ := ha.at h1
      obtain ⟨bl2, o2, rfl, hb2, hcell2⟩ := hb.at h2
      have hc1 : wr.cell? ⟨bl1, o1 + k, none⟩ = some (.int .u8 (a[k].toNat : Int)) := (hB.cell (p := ⟨bl1, o1 + k, none⟩) hb1).trans (hcell1 k h1)
      have hc2 : wr.cell? ⟨bl2, o2 + k, none⟩ = some (.int .u8 (b[k].toNat : Int)) := (hB.cell (p := ⟨bl2, o2 + k, none⟩) hb2).trans (hcell2 k h2)
      have HT' : Hid (unlikeL (a.take (k + 1)) (b.take (k + 1)) = unlikeL (a.take k) (b.take k) + if a[k] = b[k] then 0 else 1) := by
        unfold Hid
        rw [HT.out, List.getElem?_eq_getElem h1, List.getElem?_eq_getElem h2]
        simp
      generalize a[k] = x at hc1 HT'
      generalize b[k] = y at hc2 HT'
      obtain ⟨t, ht⟩ : ∃ t : Nat, t = if x = y then 0 else 1 := ⟨_, rfl⟩
      have ht1 : t ≤ 1 := by rw [ht]; split <;> omega
      have HU : ∀ w, Calls Try.prog 16 #[.int .u8 (x.toNat : Int), .int .u8 (y.toNat : Int)] w fun e w' => e = .returned (.int .i64 (t : Int)) ∧ w' = w := fun w => by rw [ht]; exact (unlike_one x y w).mono fun _ _ h => ⟨h.1, h.2.symm⟩
      rw [← ht] at HT'
      have HR : Hid (∀ W, Below wr.heap.size wr W → URel a b w (.int .i64 ((((b.length - a.length) + unlikeL (a.take k) (b.take k) : Nat) : Int) + (t : Int))) (.int .i64 ((k : Int) + 1)) W) := fun W hW => ⟨k + 1, by omega, by go_num, by rw [HT'.out]; congr 1; omega, below_step hB hW⟩
      have i0 : (0 : Int) ≤ (k : Int) := by omega
      have j1 : (k : Int) < (a.length : Int) := by omega
      have j2 : (k : Int) < (b.length : Int) := by omega
      have hs : (b.length - a.length) + unlikeL (a.take k) (b.take k) ≤ 2000000000 := by omega
      generalize (b.length - a.length) + unlikeL (a.take k) (b.take k) = s at HR hs ⊢
      have hw1 : IntKind.i64.wrap ((s : Int) + (t : Int)) = (s : Int) + (t : Int) := by rw [IntKind.wrap_i64]; omega
      clear hcell1 hcell2 HT HT' ha hb hk hB ht hu HM
      go_wp2_with fail
      go_quiet (first | (go_at_call 16; refine Calls.quiet_of_same (HU _)))
      go_wp2_with fail
      go_roundw
      case rel => exact HR.out _ (below_drewN (Below.refl _ _) _)
      case measure => simp [intOf]; omega
    · have e : k = a.length := by omega
      have HE : Hid ((b.length - a.length) + unlikeL (a.take k) (b.take k) = unlikeL a b) := by unfold Hid; rw [HM.out, e, List.take_of_length_le (Nat.le_refl _)]
      have j1 : ¬ (k : Int) < (a.length : Int) := by omega
      rw [HE.out]
      clear HE hu HM hk e
      go_wp2_with fail
      go_ret
      exact ⟨rfl, hB⟩
set_option maxHeartbeats 1000000 in
theorem unlike_down (a b : List UInt8) (A B : Option Addr) (c d : Nat) (w : World) (ha : Rd vB w A a) (hb : Rd vB w B b) (hle : a.length < b.length) (hbl : b.length ≤ 1000000000) :
    Calls Try.prog 12 #[.slice B b.length d, .slice A a.length c] w fun e w' => e = .returned (.int .i64 (unlikeL a b : Int)) ∧ Below w.heap.size w w' := by
  have s0 : (b.length : Int) - (a.length : Int) = ((b.length - a.length : Nat) : Int) := by omega
  have HM := Lib.hid (unlike_more a b (by omega))
  have s1 : b.length - a.length ≤ 1000000000 := by omega
  go_enter Try.func12, Try.ntmps12
  go_wp2_with fail
  clear s0
  go_loopw [5, 21] (fun n i wr => URel a b w n i wr) (fun _ i _ => a.length - (intOf i).toNat)
  case atStart => exact ⟨0, Nat.zero_le _, rfl, by simp [unlikeL], Below.refl _ _⟩
  case round =>
    obtain ⟨k, hk, rfl, rfl, hB⟩ := hrel
    have hu := unlike_le (a.take k) (b.take k)
    rw [List.length_take, List.length_take] at hu
    by_cases h1 : k < a.length
    · have h2 : k < b.length := by omega
      have HT := Lib.hid (unlike_take a b k (.inl h1))
      obtain ⟨bl1, o1, rfl, hb1, hcell1⟩ := ha.at h1
      obtain ⟨bl2, o2, rfl, hb2, hcell2⟩ := hb.at h2
      have hc1 : wr.cell? ⟨bl1, o1 + k, none⟩ = some (.int .u8 (a[k].toNat : Int)) := (hB.cell (p := ⟨bl1, o1 + k, none⟩) hb1).trans (hcell1 k h1)
      have hc2 : wr.cell? ⟨bl2, o2 + k, none⟩ = some (.int .u8 (b[k].toNat : Int)) := (hB.cell (p := ⟨bl2, o2 + k, none⟩) hb2).trans (hcell2 k h2)
      have HT' : Hid (unlikeL (a.take (k + 1)) (b.take (k + 1)) = unlikeL (a.take k) (b.take k) + if a[k] = b[k] then 0 else 1) := by
        unfold Hid
        rw [HT.out, List.getElem?_eq_getElem h1, List.getElem?_eq_getElem h2]
        simp
      generalize a[k] = x at hc1 HT'
      generalize b[k] = y at hc2 HT'
      obtain ⟨t, ht⟩ : ∃ t : Nat, t = if x = y then 0 else 1 := ⟨_, rfl⟩
      have ht1 : t ≤ 1 := by rw [ht]; split <;> omega
      have HU : ∀ w, Calls Try.prog 16 #[.int .u8 (x.toNat : Int), .int .u8 (y.toNat : Int)] w fun e w' => e = .returned (.int .i64 (t : Int)) ∧ w' = w := fun w => by rw [ht]; exact (unlike_one x y w).mono fun _ _ h => ⟨h.1, h.2.symm⟩
      rw [← ht] at HT'
      have HR : Hid (∀ W, Below wr.heap.size wr W → URel a b w (.int .i64 ((((b.length - a.length) + unlikeL (a.take k) (b.take k) : Nat) : Int) + (t : Int))) (.int .i64 ((k : Int) + 1)) W) := fun W hW => ⟨k + 1, by omega, by go_num, by rw [HT'.out]; congr 1; omega, below_step hB hW⟩
      have i0 : (0 : Int) ≤ (k : Int) := by omega
      have j1 : (k : Int) < (a.length : Int) := by omega
      have j2 : (k : Int) < (b.length : Int) := by omega
      have hs : (b.length - a.length) + unlikeL (a.take k) (b.take k) ≤ 2000000000 := by omega
      generalize (b.length - a.length) + unlikeL (a.take k) (b.take k) = s at HR hs ⊢
      have hw1 : IntKind.i64.wrap ((s : Int) + (t : Int)) = (s : Int) + (t : Int) := by rw [IntKind.wrap_i64]; omega
      clear hcell1 hcell2 HT HT' ha hb hk hB ht hu HM
      go_wp2_with fail
      go_quiet (first | (go_at_call 16; refine Calls.quiet_of_same (HU _)))
      go_wp2_with fail
      go_roundw
      case rel => exact HR.out _ (below_drewN (Below.refl _ _) _)
      case measure => simp [intOf]; omega
    · have e : k = a.length := by omega
      have HE : Hid ((b.length - a.length) + unlikeL (a.take k) (b.take k) = unlikeL a b) := by unfold Hid; rw [HM.out, e, List.take_of_length_le (Nat.le_refl _)]
      have j1 : ¬ (k : Int) < (a.length : Int) := by omega
      rw [HE.out]
      clear HE hu HM hk e
      go_wp2_with fail
      go_ret
      exact ⟨rfl, hB⟩
theorem unlike_any (n m : Nat) (a b : List UInt8) (A B : Option Addr) (c d : Nat) (w : World) (HN : Hid (a.length = n)) (HM : Hid (b.length = m)) (ha : Rd vB w A a) (hb : Rd vB w B b) (hal : n ≤ 1000000000) (hbl : m ≤ 1000000000) :
    Calls Try.prog 12 #[.slice A n c, .slice B m d] w fun e w' => e = .returned (.int .i64 (unlikeL a b : Int)) ∧ Below w.heap.size w w' := by
  have e1 := HN.out
  have e2 := HM.out
  subst e1 e2
  by_cases h : a.length ≤ b.length
  · exact unlike_up a b A B c d w ha hb h hbl
  · rw [unlike_symm]
    exact unlike_down b a B A d c w hb ha (by omega) hal
/-- Are two lists the same? -/
def sameB (a b : List UInt8) : Bool := decide (unlikeL a b = 0)
theorem sameB_iff (a b : List UInt8) : sameB a b = true ↔ a = b := by rw [sameB, decide_eq_true_eq, unlike_zero]
theorem same_any (n m : Nat) (a b : List UInt8) (A B : Option Addr) (c d : Nat) (w : World) (HN : Hid (a.length = n)) (HM : Hid (b.length = m)) (ha : Rd vB w A a) (hb : Rd vB w B b) (hal : n ≤ 1000000000) (hbl : m ≤ 1000000000) :
    Calls Try.prog 13 #[.slice A n c, .slice B m d] w fun e w' => e = .returned (.bool (sameB a b)) ∧ Below w.heap.size w w' := by
  have HS : Hid (sameB a b = decide (unlikeL a b = 0)) := rfl
  go_enter Try.func13, Try.ntmps13
  go_wp2_with fail
  refine (unlike_any n m a b A B c d _ HN HM ha hb hal hbl).mono ?_
  rintro e w' ⟨rfl, hb⟩
  have h0 : ((unlikeL a b : Int) == 0) = sameB a b := by
    rw [HS.out]
    by_cases h : unlikeL a b = 0
    · simp [h]
    · simp [h]
  clear HS
  go_wp2_with fail
  go_ret
  exact ⟨rfl, hb⟩
end Go.Proofs.Ytaoaejbohkmddaa
