/-
  What the reference's calls Code, Digits and Unlike of layer 4 answer. No conditions but those typed.
-/
import Derived.Test.YtaoaejbohkmddaaWordRef
import Derived.Test.YtaoaejbohkmddaaTruncMath
import Derived.Test.YtaoaejbohkmddaaRow
import Derived.Test.YtaoaejbohkmddaaStr
namespace Go.Proofs.Ytaoaejbohkmddaa
open Go.RowKit
set_option linter.unusedSimpArgs false
set_option linter.unusedVariables false

/-- A tag's code, and how it went. -/
def codeR (tag : List UInt8) : Nat × Int := if tag.length < 19 then (0, 2) else (codeN tag, 0)
theorem codeR_short (tag : List UInt8) (h : tag.length < 19) : codeR tag = (0, 2) := by rw [codeR, if_pos h]
theorem codeR_long (tag : List UInt8) (h : ¬ tag.length < 19) : codeR tag = (codeN tag, 0) := by rw [codeR, if_neg h]
/-- A code's digits, and how it went. -/
def digitsR (code : Nat) (n : Int) : List UInt8 × Int := if n < 1 ∨ 9 < n then ([], 1) else (digL code n.toNat, 0)

theorem refcode_any (n : Nat) (tag : List UInt8) (A : Option Addr) (c : Nat) (w : World) (HN : Hid (tag.length = n)) (hr : Rd vB w A tag) (hc : n ≤ c) (hl : n ≤ 9223372036854775807) :
    Calls Try.prog 8 #[.slice A n c] w fun e w' => e = .returned (.tuple #[.int .u32 ((codeR tag).1 : Int), .int .i64 (codeR tag).2]) ∧ w = w' := by
  by_cases h19 : n < 19
  · have HE : Hid (codeR tag = (0, 2)) := codeR_short tag (by rw [HN.out]; exact h19)
    have h : (n : Int) < 19 := by omega
    rw [HE.out]
    go_enter Try.func8, Try.ntmps8
    go_wp2_with fail
    go_ret2
    exact ⟨rfl, rfl⟩
  · have HE : Hid (codeR tag = (codeN tag, 0)) := codeR_long tag (by rw [HN.out]; exact h19)
    rw [HE.out]
    obtain ⟨m, rfl⟩ : ∃ m, n = m + 1 := ⟨n - 1, by omega⟩
    have hm : m < tag.length := by rw [HN.out]; omega
    obtain ⟨blk, o, rfl, hb, hcell⟩ := hr.at hm
    have hc0 : w.cell? ⟨blk, o + m, none⟩ = some (.int .u8 (tag[m].toNat : Int)) := hcell m hm
    have hat : codeAt tag = tag[m].toNat % 16 := by
      unfold codeAt
      rw [HN.out, Nat.add_sub_cancel, List.getD_eq_getElem?_getD, List.getElem?_eq_getElem hm]
      rfl
    obtain ⟨q, hq⟩ : ∃ q, q = codeAt tag := ⟨_, rfl⟩
    have hq16 : q < 16 := by rw [hq]; exact codeAt_lt tag
    obtain ⟨M, hM⟩ : ∃ M, M = (tag.drop q).take 4 := ⟨_, rfl⟩
    have HC : Hid (codeN tag = valN M % 2147483648) := by unfold Hid codeN; rw [hM, hq]
    have hMl : M.length = 4 := by rw [hM, List.length_take, List.length_drop, HN.out]; omega
    have hmid := hr.mid q (q + 4) c (by rw [HN.out]; exact hc)
    rw [if_neg (by omega), show q + 4 - q = 4 by omega, ← hM] at hmid
    have e1 : (some (⟨blk, o, none⟩ : Addr)).map (·.add (q * 1)) = some ⟨blk, o + q, none⟩ := by
      simp only [Option.map_some, Nat.mul_one, Addr.add]
      split <;> simp_all
    rw [e1] at hmid
    have hsl : ∀ W, (Instr.slice 22 (.slice (some ⟨blk, o, none⟩) (m + 1) c) (some (.int .i64 (q : Int))) (some (.int .i64 ((q : Int) + 4))) none).run Try.prog W = .ok (.slice (some ⟨blk, o + q, none⟩) 4 (c - q)) W := fun W => by
      have he : Try.prog.elem 22 = 5 := by simp [Program.elem, Try.underlying22]
      rw [run_slice_lh W 22 (some ⟨blk, o, none⟩) (m + 1) c (by rw [he]; exact Try.underlying22) .i64 .i64 (q : Int) ((q : Int) + 4) (by omega) (by omega) (by omega), he, size_uint8]
      simp only [Result.andThen, sliced, Int.toNat_natCast]
      rw [if_neg (by omega), e1, show ((q : Int) + 4).toNat - q = 4 by omega]
    have hq2 : (tag[m].toNat : Int) % 16 = (q : Int) := by rw [hq, hat]; omega
    have hv := valN_lt M
    rw [hMl] at hv
    have hq3 : IntKind.i64.wrap (q : Int) = (q : Int) := by rw [IntKind.wrap_i64]; omega
    have hq4 : IntKind.i64.wrap ((q : Int) + 4) = (q : Int) + 4 := by rw [IntKind.wrap_i64]; omega
    have i1 : ¬ (m : Int) + 1 < 19 := by omega
    have i2 : (m : Int) + 1 ≤ 9223372036854775807 := by omega
    have HM4 := Lib.hid hMl
    have hq0 : (0 : Int) ≤ (q : Int) := by omega
    generalize tag[m] = y at hc0 hq2
    clear hcell hat hq hM e1 hMl h19
    have HV := Lib.hid hv
    clear hv
    go_enter Try.func8, Try.ntmps8
    go_wp2_with fail
    have hval := value_any M (some ⟨blk, o + q, none⟩) (c - q) w hmid (by rw [HM4.out]; omega)
    rw [HM4.out] at hval
    refine hval.mono ?_
    clear hval
    rintro e w' ⟨rfl, rfl⟩
    have e1 : valN M % 18446744073709551616 = valN M := Nat.mod_eq_of_lt (by have := HV.out; omega)
    rw [e1]
    obtain ⟨v, hv⟩ : ∃ v, v = valN M := ⟨_, rfl⟩
    rw [← hv] at HC HV ⊢
    clear hv e1
    obtain ⟨z, hz⟩ : ∃ z, z = v % 2147483648 := ⟨_, rfl⟩
    have z1 : (v : Int) % 2147483648 = (z : Int) := by omega
    have z2 : IntKind.u32.wrap (z : Int) = (z : Int) := by rw [IntKind.wrap_u32']; omega
    rw [← hz] at HC
    clear hz
    go_wp2_with fail
    go_ret2
    exact ⟨ret_int2 (by rw [HC.out]) rfl, rfl⟩

/-! ### Digits -/
theorem refdigits_bad (code : Nat) (n : Int) (w : World) (h : n < 1 ∨ 9 < n) :
    Calls Try.prog 10 #[.int .u32 (code : Int), .int .i64 n] w fun e w' => e = .returned (.tuple #[.string ByteArray.empty, .int .i64 1]) ∧ Below w.heap.size w w' := by
  by_cases h1 : n < 1
  · go_enter Try.func10, Try.ntmps10
    go_wp2_with fail
    go_ret2
    exact ⟨rfl, Below.refl _ _⟩
  · have h9 : 9 < n := by omega
    go_enter Try.func10, Try.ntmps10
    go_wp2_with fail
    go_ret2
    exact ⟨rfl, Below.refl _ _⟩

def DigRel (code n : Nat) (w : World) (c s i : Value) (wr : World) : Prop :=
  ∃ k : Nat, k ≤ n ∧ i = .int .i64 (k : Int) ∧ c = .int .u32 ((code / 10 ^ k : Nat) : Int) ∧ s = .string (strL (digL code k)) ∧ Below w.heap.size w wr

set_option maxRecDepth 100000 in
theorem refdigits_good (code n : Nat) (w : World) (hc : code < 4294967296) (h1 : 1 ≤ n) (h9 : n ≤ 9) :
    Calls Try.prog 10 #[.int .u32 (code : Int), .int .i64 (n : Int)] w fun e w' => e = .returned (.tuple #[.string (strL (digL code n)), .int .i64 0]) ∧ Below w.heap.size w w' := by
  have i1 : ¬ (n : Int) < 1 := by omega
  have i2 : ¬ (9 : Int) < (n : Int) := by omega
  go_enter Try.func10, Try.ntmps10
  go_wp2_with fail
  clear i1 i2
  go_loopw [0, 6, 7] (fun c s i wr => DigRel code n w c s i wr) (fun _ _ i _ => n - (intOf i).toNat)
  case atStart => exact ⟨0, by omega, rfl, by simp, rfl, Below.refl _ _⟩
  case round =>
    obtain ⟨k, hk, rfl, rfl, rfl, hB⟩ := hrel
    by_cases hlt : k < n
    · have HD : Hid (digL code (k + 1) = digB code k :: digL code k) := rfl
      have hx := digB_toNat code k
      have hle : code / 10 ^ k ≤ code := Nat.div_le_self _ _
      have hdiv : ((code / 10 ^ k : Nat) : Int) / 10 = ((code / 10 ^ (k + 1) : Nat) : Int) := by rw [Nat.pow_succ, ← Nat.div_div_eq_div_mul]; omega
      have HRel : Hid (∀ x : UInt8, DigRel code n w (.int .u32 ((code / 10 ^ (k + 1) : Nat) : Int)) (.string (strL (digL code (k + 1)))) (.int .i64 ((k : Int) + 1)) (wr.alloc (.cells #[.int .u8 (x.toNat : Int)] 5))) := fun x => ⟨k + 1, by omega, by go_num, rfl, rfl, below_new hB _⟩
      generalize digB code k = x at HD hx
      generalize code / 10 ^ k = cc at hx hle hdiv ⊢
      generalize code / 10 ^ (k + 1) = c2 at hdiv HRel
      obtain ⟨r, hr⟩ : ∃ r, r = cc % 10 := ⟨_, rfl⟩
      have hmod : (cc : Int) % 10 = (r : Int) := by omega
      have hxx : (48 : Int) + (r : Int) = (x.toNat : Int) := by omega
      have hx8 : x.toNat < 256 := x.toNat_lt
      have hw1 : IntKind.u8.wrap (r : Int) = (r : Int) := by rw [IntKind.wrap_u8']; omega
      have hw2 : IntKind.u8.wrap (x.toNat : Int) = (x.toNat : Int) := by rw [IntKind.wrap_u8']; omega
      have hcv : (convert 22 9 (.slice (some ⟨wr.heap.size, 0, none⟩) 1 1)).run Try.prog (wr.alloc (.cells #[.int .u8 (x.toNat : Int)] 5)) = .ok (.string (strL [x])) (wr.alloc (.cells #[.int .u8 (x.toNat : Int)] 5)) := run_str _ _ _ _ Try.underlying22 Try.underlying5 Try.underlying9 _ [x] 1 1 rfl (Rd.new wr [x] _ _ rfl)
      have hap : strL [x] ++ strL (digL code k) = strL (digL code (k + 1)) := by
        rw [HD.out]
        unfold strL
        apply ByteArray.ext
        rw [ByteArray.data_append]
        simp
      have hDs : ((strL (digL code k)).size : Int) ≤ 8388608 := by rw [strL_size, digL_length]; omega
      have hXs : ((strL [x]).size : Int) ≤ 8388608 := by rw [strL_size]; simp
      generalize strL (digL code k) = D at hap hDs ⊢
      generalize strL (digL code (k + 1)) = D' at hap HRel
      generalize strL [x] = X at hap hcv hXs
      have i0 : (0 : Int) ≤ (k : Int) := by omega
      have i1 : (k : Int) < (n : Int) := by omega
      have hcw : (cc : Int) < 4294967296 := by omega
      have hr0 : (0 : Int) ≤ (r : Int) := by omega
      have hr10 : (r : Int) < 10 := by omega
      clear HD hx hB hle hr
      go_wp2_with fail
      go_roundw
      case rel => exact HRel.out x
      case measure => simp [intOf]; omega
    · have hkn : k = n := by omega
      subst hkn
      go_wp2_with fail
      go_ret2
      exact ⟨rfl, hB⟩

/-! ### Unlike -/
def UnRel (a b : List UInt8) (w : World) (n i : Value) (wr : World) : Prop :=
  ∃ k : Nat, (k ≤ a.length ∨ k ≤ b.length) ∧ i = .int .i64 (k : Int) ∧ n = .int .i64 (unlikeL (a.take k) (b.take k) : Int) ∧ Below w.heap.size w wr

set_option maxHeartbeats 1000000 in
theorem refunlike_any (a b : List UInt8) (A B : Option Addr) (c d : Nat) (w : World) (ha : Rd vB w A a) (hb : Rd vB w B b) (hal : a.length ≤ 1000000000) (hbl : b.length ≤ 1000000000) :
    Calls Try.prog 11 #[.slice A a.length c, .slice B b.length d] w fun e w' => e = .returned (.int .i64 (unlikeL a b : Int)) ∧ Below w.heap.size w w' := by
  go_enter Try.func11, Try.ntmps11
  go_wp2_with fail
  go_loopw [5, 6] (fun n i wr => UnRel a b w n i wr) (fun _ i _ => max a.length b.length - (intOf i).toNat)
  case atStart => exact ⟨0, .inl (Nat.zero_le _), rfl, rfl, Below.refl _ _⟩
  case round =>
    obtain ⟨k, hk, rfl, rfl, hB⟩ := hrel
    have hu := unlike_le (a.take k) (b.take k)
    have hub : unlikeL (a.take k) (b.take k) ≤ 1000000000 := by rw [List.length_take, List.length_take] at hu; omega
    clear hu
    by_cases h : k < a.length ∨ k < b.length
    · have HT := Lib.hid (unlike_take a b k h)
      generalize unlikeL (a.take k) (b.take k) = u at hub HT
      have i0 : (0 : Int) ≤ (k : Int) := by omega
      have hBase : Below wr.heap.size wr wr.drew := (Below.refl _ _).drew
      by_cases h1 : k < a.length
      · have j1 : (k : Int) < (a.length : Int) := by omega
        have k1 : ¬ (a.length : Int) ≤ (k : Int) := by omega
        have k2 : ¬ a.length ≤ k := by omega
        by_cases h2 : k < b.length
        · have j2 : (k : Int) < (b.length : Int) := by omega
          have k3 : ¬ (b.length : Int) ≤ (k : Int) := by omega
          have k4 : ¬ b.length ≤ k := by omega
          obtain ⟨bl1, o1, rfl, hb1, hcell1⟩ := ha.at h1
          obtain ⟨bl2, o2, rfl, hb2, hcell2⟩ := hb.at h2
          have hc1 : ∀ W, Below wr.heap.size wr W → W.cell? ⟨bl1, o1 + k, none⟩ = some (.int .u8 (a[k].toNat : Int)) := fun W hW => ((below_step hB hW).cell (p := ⟨bl1, o1 + k, none⟩) hb1).trans (hcell1 k h1)
          have hc2 : ∀ W, Below wr.heap.size wr W → W.cell? ⟨bl2, o2 + k, none⟩ = some (.int .u8 (b[k].toNat : Int)) := fun W hW => ((below_step hB hW).cell (p := ⟨bl2, o2 + k, none⟩) hb2).trans (hcell2 k h2)
          have HT' : Hid (unlikeL (a.take (k + 1)) (b.take (k + 1)) = u + if a[k] = b[k] then 0 else 1) := by
            unfold Hid
            rw [HT.out, List.getElem?_eq_getElem h1, List.getElem?_eq_getElem h2]
            simp
          generalize a[k] = x at hc1 HT'
          generalize b[k] = y at hc2 HT'
          clear hcell1 hcell2 HT h ha hb hk
          have HB := Lib.hid hB
          by_cases e : x = y
          · subst e
            have HR : Hid (UnRel a b w (.int .i64 (u : Int)) (.int .i64 ((k : Int) + 1)) wr.drew) := ⟨k + 1, .inl (by omega), by go_num, by rw [HT'.out, if_pos rfl]; rfl, HB.out.drew⟩
            clear HT' hB
            go_wp2_with fail
            refine wp_region_plan (.step 0 false (.step 1 false (.step 2 false (.step 3 false (.step 4 false (.step 5 false (.step 6 false (.step 7 false (.step 8 false (.step 9 false (.step 10 false (.step 11 false (.step 12 false (.step 13 false (.step 14 false (.step 15 false (.step 16 false (.step 17 false (.step 18 false (.step 19 false (.step 20 false (.nil)))))))))))))))))))))) (by kernel_rfl) (by kernel_rfl) (by rfl) (by kernel_rfl) ?_
            iterate 21 (refine plan_read rfl (by rfl) (v := ?_) ?_ ?_; rotate_left 1; (intro W hW; have hW0 := below_step hBase hW; (try dsimp only at hW); go_simp <;> with_reducible rfl); simp only [List.getElem_toArray, List.getElem_cons_zero, List.getElem_cons_succ, Act.put, List.setIfInBounds_toArray, List.set_cons_zero, List.set_cons_succ])
            refine plan_done ?_
            clear hc1 hc2 hBase
            go_wp2_with fail
            go_roundw
            case rel => exact HR.out
            case measure => simp [intOf]; omega
          · have HR : Hid (UnRel a b w (.int .i64 ((u : Int) + 1)) (.int .i64 ((k : Int) + 1)) wr.drew) := ⟨k + 1, .inl (by omega), by go_num, by rw [HT'.out, if_neg e]; go_num, HB.out.drew⟩
            have hne : ((x.toNat : Int) != (y.toNat : Int)) = true := by
              have : x.toNat ≠ y.toNat := fun h => e (UInt8.toNat_inj.1 h)
              simp
              omega
            clear HT' hB e
            go_wp2_with fail
            refine wp_region_plan (.step 0 false (.step 1 false (.step 2 false (.step 3 false (.step 4 false (.step 5 false (.step 6 false (.step 7 false (.step 8 false (.step 9 false (.step 10 false (.step 11 false (.step 12 false (.step 13 false (.step 14 false (.step 15 false (.step 16 false (.step 17 false (.step 18 false (.step 19 false (.step 20 false (.nil)))))))))))))))))))))) (by kernel_rfl) (by kernel_rfl) (by rfl) (by kernel_rfl) ?_
            iterate 21 (refine plan_read rfl (by rfl) (v := ?_) ?_ ?_; rotate_left 1; (intro W hW; have hW0 := below_step hBase hW; (try dsimp only at hW); go_simp <;> with_reducible rfl); simp only [List.getElem_toArray, List.getElem_cons_zero, List.getElem_cons_succ, Act.put, List.setIfInBounds_toArray, List.set_cons_zero, List.set_cons_succ])
            refine plan_done ?_
            clear hc1 hc2 hBase hne
            go_wp2_with fail
            go_roundw
            case rel => exact HR.out
            case measure => simp [intOf]; omega
        · have HT' : Hid (unlikeL (a.take (k + 1)) (b.take (k + 1)) = u + 1) := by
            unfold Hid
            rw [HT.out, List.getElem?_eq_getElem h1, List.getElem?_eq_none (by omega), if_neg (by simp)]
          have HR : Hid (UnRel a b w (.int .i64 ((u : Int) + 1)) (.int .i64 ((k : Int) + 1)) wr.drew) := ⟨k + 1, .inl (by omega), by go_num, by rw [HT'.out]; go_num, hB.drew⟩
          have j2 : (b.length : Int) ≤ (k : Int) := by omega
          have j3 : b.length ≤ k := by omega
          clear HT HT' hB h ha hb hk
          go_wp2_with fail
          refine wp_region_plan (.step 0 false (.step 1 false (.step 2 false (.step 3 false (.step 4 false (.step 5 false (.step 6 false (.step 7 false (.step 8 false (.step 9 false (.step 10 false (.step 11 false (.step 12 false (.step 13 false (.step 14 false (.step 15 false (.step 16 false (.step 17 false (.step 18 false (.step 19 false (.step 20 false (.nil)))))))))))))))))))))) (by kernel_rfl) (by kernel_rfl) (by rfl) (by kernel_rfl) ?_
          iterate 11 (refine plan_read rfl (by rfl) (v := ?_) ?_ ?_; rotate_left 1; (intro W hW; have hW0 := below_step hBase hW; (try dsimp only at hW); go_simp <;> with_reducible rfl); simp only [List.getElem_toArray, List.getElem_cons_zero, List.getElem_cons_succ, Act.put, List.setIfInBounds_toArray, List.set_cons_zero, List.set_cons_succ])
          iterate 9 (refine plan_skip rfl (by rfl) ?_; simp only [List.getElem_toArray, List.getElem_cons_zero, List.getElem_cons_succ, Act.put, List.setIfInBounds_toArray, List.set_cons_zero, List.set_cons_succ])
          iterate 1 (refine plan_read rfl (by rfl) (v := ?_) ?_ ?_; rotate_left 1; (intro W hW; have hW0 := below_step hBase hW; (try dsimp only at hW); go_simp <;> with_reducible rfl); simp only [List.getElem_toArray, List.getElem_cons_zero, List.getElem_cons_succ, Act.put, List.setIfInBounds_toArray, List.set_cons_zero, List.set_cons_succ])
          refine plan_done ?_
          clear hBase
          go_wp2_with fail
          go_roundw
          case rel => exact HR.out
          case measure => simp [intOf]; omega
      · have h2 : k < b.length := by omega
        have HT' : Hid (unlikeL (a.take (k + 1)) (b.take (k + 1)) = u + 1) := by
          unfold Hid
          rw [HT.out, List.getElem?_eq_getElem h2, List.getElem?_eq_none (by omega), if_neg (by simp)]
        have HR : Hid (UnRel a b w (.int .i64 ((u : Int) + 1)) (.int .i64 ((k : Int) + 1)) wr.drew) := ⟨k + 1, .inr (by omega), by go_num, by rw [HT'.out]; go_num, hB.drew⟩
        have j1 : (a.length : Int) ≤ (k : Int) := by omega
        have j2 : (k : Int) < (b.length : Int) := by omega
        have j3 : a.length ≤ k := by omega
        clear HT HT' hB h ha hb hk
        go_wp2_with fail
        refine wp_region_plan (.step 0 false (.step 1 false (.step 2 false (.step 3 false (.step 4 false (.step 5 false (.step 6 false (.step 7 false (.step 8 false (.step 9 false (.step 10 false (.step 11 false (.step 12 false (.step 13 false (.step 14 false (.step 15 false (.step 16 false (.step 17 false (.step 18 false (.step 19 false (.step 20 false (.nil)))))))))))))))))))))) (by kernel_rfl) (by kernel_rfl) (by rfl) (by kernel_rfl) ?_
        iterate 5 (refine plan_read rfl (by rfl) (v := ?_) ?_ ?_; rotate_left 1; (intro W hW; have hW0 := below_step hBase hW; (try dsimp only at hW); go_simp <;> with_reducible rfl); simp only [List.getElem_toArray, List.getElem_cons_zero, List.getElem_cons_succ, Act.put, List.setIfInBounds_toArray, List.set_cons_zero, List.set_cons_succ])
        iterate 4 (refine plan_skip rfl (by rfl) ?_; simp only [List.getElem_toArray, List.getElem_cons_zero, List.getElem_cons_succ, Act.put, List.setIfInBounds_toArray, List.set_cons_zero, List.set_cons_succ])
        iterate 2 (refine plan_read rfl (by rfl) (v := ?_) ?_ ?_; rotate_left 1; (intro W hW; have hW0 := below_step hBase hW; (try dsimp only at hW); go_simp <;> with_reducible rfl); simp only [List.getElem_toArray, List.getElem_cons_zero, List.getElem_cons_succ, Act.put, List.setIfInBounds_toArray, List.set_cons_zero, List.set_cons_succ])
        iterate 9 (refine plan_skip rfl (by rfl) ?_; simp only [List.getElem_toArray, List.getElem_cons_zero, List.getElem_cons_succ, Act.put, List.setIfInBounds_toArray, List.set_cons_zero, List.set_cons_succ])
        iterate 1 (refine plan_read rfl (by rfl) (v := ?_) ?_ ?_; rotate_left 1; (intro W hW; have hW0 := below_step hBase hW; (try dsimp only at hW); go_simp <;> with_reducible rfl); simp only [List.getElem_toArray, List.getElem_cons_zero, List.getElem_cons_succ, Act.put, List.setIfInBounds_toArray, List.set_cons_zero, List.set_cons_succ])
        refine plan_done ?_
        clear hBase
        go_wp2_with fail
        go_roundw
        case rel => exact HR.out
        case measure => simp [intOf]; omega
    · have HE : Hid (unlikeL (a.take k) (b.take k) = unlikeL a b) := by unfold Hid; rw [List.take_of_length_le (by omega), List.take_of_length_le (by omega)]
      have j1 : ¬ (k : Int) < (a.length : Int) := by omega
      have j2 : ¬ (k : Int) < (b.length : Int) := by omega
      rw [HE.out]
      clear h hk
      go_wp2_with fail
      go_ret
      exact ⟨rfl, hB⟩
end Go.Proofs.Ytaoaejbohkmddaa
