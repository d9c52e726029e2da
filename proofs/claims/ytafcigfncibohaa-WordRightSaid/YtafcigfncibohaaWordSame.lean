/-
  What the reference's call Same answers for two slices that read as one list: true.
-/
import Derived.Test.YtafcigfncibohaaWordAwake
import Derived.Deep.QuietTactic
import Derived.BigQuiet
namespace Go.Proofs.Ytafcigfncibohaa
open Go.RowKit

def Quiet1 (w : World) (v : Value) (e : Ending) (w' : World) : Prop := e = .returned v ∧ ∃ n, w' = w.drewN n

theorem same_eq (L : List UInt32) (A1 A2 : Option Addr) (c1 c2 : Nat) (w : World) (h1 : Rd vW w A1 L) (h2 : Rd vW w A2 L) (hl : L.length ≤ 9223372036854775807) :
    Calls Try.prog 9 #[.slice A1 L.length c1, .slice A2 L.length c2] w (Quiet1 w (.bool true)) := by
  go_enter Try.func9, Try.ntmps9
  go_wp2
  go_loopw [5] (fun i wr => ∃ k n : Nat, k ≤ L.length ∧ i = .int .i64 k ∧ wr = w.drewN n) (fun i _ => L.length - (intOf i).toNat)
  case atStart => exact ⟨0, 0, Nat.zero_le _, rfl, rfl⟩
  case round =>
    obtain ⟨k, n, hk, rfl, rfl⟩ := hrel
    by_cases hlt : k < L.length
    · obtain ⟨b1, o1, rfl, _, hc1⟩ := h1.at hlt
      obtain ⟨b2, o2, rfl, _, hc2⟩ := h2.at hlt
      have e1 : w.cell? ⟨b1, o1 + k, none⟩ = some (.int .u32 (L[k].toNat : Int)) := hc1 k hlt
      have e2 : w.cell? ⟨b2, o2 + k, none⟩ = some (.int .u32 (L[k].toNat : Int)) := hc2 k hlt
      have hi : (0 : Int) ≤ (k : Int) := by omega
      have hj : (k : Int) < (L.length : Int) := by omega
      generalize L[k] = x at e1 e2
      clear h1 h2 hc1 hc2
      go_wp2
      go_quiet (fail)
      go_wp2
      go_roundw
      case rel => exact ⟨k + 1, _, by omega, by go_num, rfl⟩
      case measure => simp [intOf]; omega
    · go_wp2
      go_ret
      exact ⟨rfl, n, rfl⟩
theorem same_true (L : List UInt32) (A1 A2 : Option Addr) (c1 c2 : Nat) (w : World) (h1 : Rd vW w A1 L) (h2 : Rd vW w A2 L) (hl : L.length ≤ 9223372036854775807) :
    Calls Try.prog 9 #[.slice A1 L.length c1, .slice A2 L.length c2] w fun e w' => e = .returned (.bool true) ∧ Below w.heap.size w w' :=
  (same_eq L A1 A2 c1 c2 w h1 h2 hl).mono fun _ _ ⟨he, n, hw⟩ => ⟨he, by rw [hw]; exact below_drewN (Below.refl _ _) n⟩
end Go.Proofs.Ytafcigfncibohaa
