/-
  What the reference's call Least answers, for any number: the same as the program's.
-/
import Derived.Test.YtobeaoooaagdkaaWordRef
namespace Go.Proofs.Ytobeaoooaagdkaa
set_option maxRecDepth 100000
open Go.RowKit

def RefLeastRel (L : List UInt8) (w : World) (s : Value) : Prop := ∃ (M : List UInt8) (b o cap : Nat), s = .slice (some ⟨b, o, none⟩) M.length cap ∧ M.length ≤ cap ∧ M.length ≤ 8 ∧ Rd vB w (some ⟨b, o, none⟩) M ∧ L.dropWhile (· == 0) = M.dropWhile (· == 0)

theorem refput_some (v : Nat) (hv : v < 18446744073709551616) (w : World) :
    Calls Try.prog 23 #[.int .u64 (v : Int)] w fun e w' => ∃ b o cap, e = .returned (.slice (some ⟨b, o, none⟩) (putL v).length cap) ∧ (putL v).length ≤ cap ∧ Rd vB w' (some ⟨b, o, none⟩) (putL v) ∧ Below w.heap.size w w' :=
  (refput_any v hv w).mono fun _ _ ⟨A, cap, he, hc, hr, hb⟩ => by
    obtain ⟨b, o, rfl, hcell⟩ := hr (by simp [putL])
    exact ⟨b, o, cap, he, hc, hr, hb⟩

theorem own_base {w : World} {base b' : Nat} {e : TypeId} {v : Value} {n : Nat} {xs : List Value} (h : w.ownsRow base e 1 v n xs) (hb : b' ≤ base) : w.ownsRow b' e 1 v n xs :=
  ⟨h.1, h.2.imp id fun ⟨g, cap, cur, h1, h2, h3⟩ => ⟨g, cap, cur, h1, Nat.le_trans hb h2, h3⟩⟩
/-- In memory of the call's own. -/
theorem refleast_own (v : Nat) (hv : v < 18446744073709551616) (w : World) :
    Calls Try.prog 15 #[.int .u64 (v : Int)] w (RetO 5 vB w (leastL v)) := by
  obtain ⟨i0, hi, hz0, hz1, hz2⟩ := info_parts info_u8
  have H8 : Hid (∀ L, L = putL v → L.length = 8) := by rintro L rfl; rfl
  have HL : Hid (∀ L, L = putL v → leastL v = L.dropWhile (· == 0)) := by rintro L rfl; rfl
  go_enter Try.func15, Try.ntmps15
  go_wp2_with (go_at_call 23; refine (refput_some v hv _).mono ?_; rintro e w1 ⟨b0, o0, cap, rfl, hcap, hrd, hbel⟩)
  obtain ⟨L, e⟩ : ∃ L, L = putL v := ⟨_, rfl⟩
  have h8 := H8.out L e
  have HL' := Lib.hid (HL.out L e)
  rw [← e] at hcap hrd ⊢
  clear HL H8 e
  go_loop [3] (fun s => RefLeastRel L w1 s) (fun s => sliceLen s)
  case atStart => exact ⟨L, b0, o0, cap, rfl, hcap, by omega, hrd, rfl⟩
  case round =>
    obtain ⟨M, b, o, cap1, rfl, hcap1, hm8, hrd1, hdw⟩ := hrel
    have HD := Lib.hid hdw
    clear hdw h8 hrd hcap
    cases M with
    | nil =>
      have HF : Hid (leastL v = []) := by unfold Hid; rw [HL'.out, HD.out]; rfl
      go_wp2_with fail
      go_ret
      rw [HF.out]
      have hown0 : (w1.alloc (.cells #[] 5)).ownsRow w1.heap.size 5 1 (.slice (some ⟨w1.heap.size, 0, none⟩) 0 0) 0 [] := World.ownsRow_made w1 #[] 0 (Nat.le_refl _) (by unfold maxLen; omega) rfl
      exact ⟨_, rfl, own_base hown0 hbel.size, below_new hbel _⟩
    | cons c M =>
      have hc := hrd1 (by simp)
      obtain ⟨b', o', e', hcell⟩ := hc
      injection e' with e'
      injection e' with e1 e2 _
      subst e1 e2
      have hc := hcell 0 (by simp)
      simp only [List.getElem_cons_zero, Nat.add_zero, vB] at hc
      by_cases hz : c = 0
      · subst hz
        have hc' : w1.cell? ⟨b, o, none⟩ = some (.int .u8 0) := hc
        have hrd2 : Rd vB w1 (if cap1 = 1 then some ⟨b, o, none⟩ else some ⟨b, o + 1, none⟩) M := by
          have := hrd1.drop 1 cap1 hcap1
          simpa [Addr.add] using this
        have hM : M.length + 1 ≤ cap1 := by simpa using hcap1
        have hM8 : M.length + 1 ≤ 8 := by simpa using hm8
        have HD' : Hid (L.dropWhile (· == 0) = M.dropWhile (· == 0)) := by
          unfold Hid
          rw [HD.out, List.dropWhile_cons, if_pos (by rfl)]
        clear hc hcell hrd1 hcap1 hm8
        by_cases h1 : cap1 = 1
        · subst h1
          obtain rfl : M = [] := List.eq_nil_of_length_eq_zero (by omega)
          go_wp2_with fail
          go_round
          case rel => exact ⟨[], _, _, 0, rfl, by simp, by simp, Rd.nil, HD'.out⟩
          case measure => simp [sliceLen]
        · rw [if_neg h1] at hrd2
          go_wp2_with fail
          go_round
          case rel => exact ⟨M, _, _, cap1 - 1, rfl, by omega, by omega, hrd2, HD'.out⟩
          case measure => simp [sliceLen]
      · have hne : ((c.toNat : Int) == 0) = false := by
          have : c.toNat ≠ 0 := fun h => hz (UInt8.toNat_inj.1 h)
          simp
          omega
        have HF : Hid (leastL v = c :: M) := by
          unfold Hid
          rw [HL'.out, HD.out, List.dropWhile_cons, if_neg (by simpa using hz)]
        clear hz hcell
        have hM8 : M.length + 1 ≤ 8 := by simpa using hm8
        have hr2 : Rd vB (w1.alloc (.cells #[] 5)) (some ⟨b, o, none⟩) (c :: M) := hrd1.keep (below_new (Below.refl _ _) _)
        have hnews := hr2.news
        have hone : ∀ u ∈ (c :: M).map vB, u.oneCell' = true := by
          intro u hu
          simp only [List.mem_map] at hu
          obtain ⟨x, _, rfl⟩ := hu
          rfl
        have hown0 : (w1.alloc (.cells #[] 5)).ownsRow w1.heap.size 5 1 (.slice (some ⟨w1.heap.size, 0, none⟩) 0 0) 0 [] := World.ownsRow_made w1 #[] 0 (Nat.le_refl _) (by unfold maxLen; omega) rfl
        have HN := Lib.hid hnews
        have HO := Lib.hid hone
        clear hnews hone hrd1 hr2 hm8
        go_wp2_with (at_builtin; refine wpList_append_own _ rfl _ _ 23 rfl w1.heap.size 5 i0 (.int .u8 0) 1 1 Try.underlying23 hi hz0 hz1 hz2 rfl (by decide) _ _ _ rfl hown0 ⟨b, o, none⟩ (M.length + 1) cap1 ((c :: M).map vB) rfl (by simp) HN.out HO.out (by unfold maxLen; omega) (by omega) (by simp) ?_; intro v' w2 hown' hgrow' _)
        go_ret
        rw [HF.out]
        refine ⟨_, rfl, own_base (base := w1.heap.size) (by simpa using hown') hbel.size, below_step hbel ?_⟩
        exact (below_new (Below.refl _ _) _).grown hgrow' (by simp) (fun g hk => (hown0.lt g hk).1)

theorem refleast_any (v : Nat) (hv : v < 18446744073709551616) (w : World) :
    Calls Try.prog 15 #[.int .u64 (v : Int)] w (RetS vB w (leastL v)) := (refleast_own v hv w).mono fun _ _ h => h.ret
end Go.Proofs.Ytobeaoooaagdkaa
