/-
  What the call word.join answers: the number of the bytes, modulo 2^64.
-/
import Derived.Test.YtobeaoooaagdkaaWordRot
import Derived.LoopTactic
namespace Go.Proofs.Ytobeaoooaagdkaa
set_option maxRecDepth 100000
open Go.RowKit

theorem join_any (l : List UInt8) (A : Option Addr) (cap : Nat) (w : World) (hr : Rd vB w A l) (hl : l.length ≤ 9223372036854775807) :
    Calls Try.prog 27 #[.slice A l.length cap] w fun e w' => e = .returned (.int .u64 ((valN l % 18446744073709551616 : Nat) : Int)) ∧ w = w' := by
  go_enter Try.func27, Try.ntmps27
  go_wp2
  go_loop [3, 8] (fun v i => ∃ k : Nat, k ≤ l.length ∧ i = .int .i64 k ∧ v = .int .u64 ((valN (l.take k) % 18446744073709551616 : Nat) : Int)) (fun _ i => l.length - (intOf i).toNat)
  case atStart => exact ⟨0, Nat.zero_le _, rfl, rfl⟩
  case round =>
    obtain ⟨k, hk, rfl, rfl⟩ := hrel
    by_cases hlt : k < l.length
    · obtain ⟨b, o, rfl, hb, hcell⟩ := hr.at hlt
      have hc := hcell k hlt
      unfold vB at hc
      have hb8 : l[k].toNat < 256 := l[k].toNat_lt
      have HS : Hid _ := join_step (valN (l.take k)) l[k].toNat hb8
      have HT : Hid _ := valN_take l k hlt
      generalize l[k] = c at hc hb8 HS HT
      clear hcell hr
      go_wp2
      go_round
      case rel => exact ⟨k + 1, by omega, by go_num, by rw [HT.out, HS.out]⟩
      case measure => simp [intOf]; omega
    · have hk' : k = l.length := by omega
      have HK : Hid (l.take k = l) := by rw [hk']; exact List.take_length
      clear hk'
      go_wp2
      go_ret
      exact ⟨ret_int (by rw [HK.out]), rfl⟩

end Go.Proofs.Ytobeaoooaagdkaa
