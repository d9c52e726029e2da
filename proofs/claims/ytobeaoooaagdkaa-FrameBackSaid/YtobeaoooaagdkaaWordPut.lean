/-
  What the calls word.Put and word.Least answer, for any number.
-/
import Derived.Test.YtobeaoooaagdkaaWordGet
import Derived.LoopN
namespace Go.Proofs.Ytobeaoooaagdkaa
set_option maxRecDepth 100000
open Go.RowKit

theorem vB_ofNat (n : Nat) : vB (UInt8.ofNat n) = .int .u8 ((n % 256 : Nat) : Int) := by
  unfold vB
  rw [UInt8.toNat_ofNat']
theorem put_cells (v : Nat) (hv : v < 18446744073709551616) :
    #[Value.int IntKind.u8 ((v : Int) / 72057594037927936), Value.int IntKind.u8 ((v : Int) / 281474976710656 % 256), Value.int IntKind.u8 ((v : Int) / 1099511627776 % 256), Value.int IntKind.u8 ((v : Int) / 4294967296 % 256),
      Value.int IntKind.u8 ((v : Int) / 16777216 % 256), Value.int IntKind.u8 ((v : Int) / 65536 % 256), Value.int IntKind.u8 ((v : Int) / 256 % 256), Value.int IntKind.u8 ((v : Int) % 256)] = ((putL v).map vB).toArray := by
  have e : (putL v).map vB = [vB (UInt8.ofNat (v / 72057594037927936)), vB (UInt8.ofNat (v / 281474976710656)), vB (UInt8.ofNat (v / 1099511627776)), vB (UInt8.ofNat (v / 4294967296)),
      vB (UInt8.ofNat (v / 16777216)), vB (UInt8.ofNat (v / 65536)), vB (UInt8.ofNat (v / 256)), vB (UInt8.ofNat (v / 1))] := rfl
  rw [e]
  simp only [vB_ofNat]
  have e0 : ((v : Int) / 72057594037927936) = ((v / 72057594037927936 % 256 : Nat) : Int) := by omega
  rw [e0]
  simp
theorem putL_length (v : Nat) : (putL v).length = 8 := rfl

theorem put_any (v : Nat) (hv : v < 18446744073709551616) (w : World) :
    Calls Try.prog 22 #[.int .u64 (v : Int)] w (RetS vB w (putL v)) := by
  have hmk : ∀ w, (Instr.makeSlice 23 (.int .i64 8) (.int .i64 8)).run Try.prog w = .ok (.slice (some ⟨w.heap.size, 0, none⟩) 8 8) (w.alloc (.cells #[.int .u8 0, .int .u8 0, .int .u8 0, .int .u8 0, .int .u8 0, .int .u8 0, .int .u8 0, .int .u8 0] 5)) := fun _ => by kernel_rfl
  go_enter Try.func22, Try.ntmps22
  go_wp2
  refine wp_loop_rounds 9 ?_
  iterate 9 (rw [rounds_succ]; go_wp2)
  go_ret
  exact ⟨_, 8, rfl, Nat.le_refl _, Rd.new _ _ _ _ (put_cells v hv), (Below.refl _ _).alloc (Nat.le_refl _) _⟩

def LeastRel (L : List UInt8) (w : World) (s : Value) : Prop := ∃ (M : List UInt8) (A : Option Addr) (cap : Nat), s = .slice A M.length cap ∧ M.length ≤ cap ∧ M.length ≤ 8 ∧ Rd vB w A M ∧ L.dropWhile (· == 0) = M.dropWhile (· == 0)
def sliceLen : Value → Nat | .slice _ n _ => n | _ => 0

theorem size_uint8 (w : World) : (sizeOf 5).run Try.prog w = .ok 1 w := by kernel_rfl

theorem least_any (v : Nat) (hv : v < 18446744073709551616) (w : World) :
    Calls Try.prog 14 #[.int .u64 (v : Int)] w (RetS vB w (leastL v)) := by
  have H8 : Hid (∀ L, L = putL v → L.length = 8) := by rintro L rfl; rfl
  have HL : Hid (∀ L, L = putL v → leastL v = L.dropWhile (· == 0)) := by rintro L rfl; rfl
  go_enter Try.func14, Try.ntmps14
  go_wp2_with (go_at_call 22; refine (put_any v hv _).mono ?_; rintro e w1 ⟨A, cap, rfl, hcap, hrd, hbel⟩)
  obtain ⟨L, e⟩ : ∃ L, L = putL v := ⟨_, rfl⟩
  have h8 := H8.out L e
  have HL' := Lib.hid (HL.out L e)
  rw [← e] at hcap hrd ⊢
  clear HL H8 e
  go_loop [3] (fun s => LeastRel L w1 s) (fun s => sliceLen s)
  case atStart => exact ⟨L, A, cap, rfl, hcap, by omega, hrd, rfl⟩
  case round =>
    obtain ⟨M, A1, cap1, rfl, hcap1, hm8, hrd1, hdw⟩ := hrel
    have HD := Lib.hid hdw
    clear hdw h8 hrd hcap
    cases M with
    | nil =>
      go_wp2
      go_ret
      exact ⟨A1, cap1, by rw [HL'.out, HD.out]; rfl, by rw [HL'.out, HD.out]; simp, by rw [HL'.out, HD.out]; exact Rd.nil, hbel⟩
    | cons c M =>
      obtain ⟨b, o, rfl, hb, hcell⟩ := hrd1.at (k := 0) (by simp)
      have hc := hcell 0 (by simp)
      simp only [List.getElem_cons_zero, Nat.add_zero, vB] at hc
      by_cases hz : c = 0
      · subst hz
        have hc' : w1.cell? ⟨b, o, none⟩ = some (.int .u8 0) := hc
        have hrd2 : Rd vB w1 (if cap1 = 1 then some ⟨b, o, none⟩ else some ⟨b, o + 1, none⟩) M := by
          have := hrd1.drop 1 cap1 hcap1
          simpa [Addr.add] using this
        have hM : M.length + 1 ≤ cap1 := by simpa using hcap1
        have hM8 : M.length + 1 ≤ 8 := by simpa using hm8
        have HD' : Hid (L.dropWhile (· == 0) = M.dropWhile (· == 0)) := by
          unfold Hid
          rw [HD.out, List.dropWhile_cons, if_pos (by rfl)]
        clear hc hcell hrd1 hcap1 hm8
        go_wp2
        go_round
        case rel => exact ⟨M, _, cap1 - 1, rfl, by omega, by omega, hrd2, HD'.out⟩
        case measure => simp [sliceLen]
      · have hne : ((c.toNat : Int) == 0) = false := by
          have : c.toNat ≠ 0 := fun h => hz (UInt8.toNat_inj.1 h)
          simp
          omega
        have HF : Hid (L.dropWhile (· == 0) = c :: M) := by
          unfold Hid
          rw [HD.out, List.dropWhile_cons, if_neg (by simpa using hz)]
        clear hz hcell
        go_wp2
        go_ret
        exact ⟨_, cap1, by rw [HL'.out, HF.out]; rfl, by rw [HL'.out, HF.out]; exact hcap1, by rw [HL'.out, HF.out]; exact hrd1, hbel⟩

end Go.Proofs.Ytobeaoooaagdkaa
