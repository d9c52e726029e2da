/-
  What the calls word.Get and word.FromLeast answer, for any bytes.
-/
import Derived.Test.YtppdfldmbfddnaaWordJoin
namespace Go.Proofs.Ytppdfldmbfddnaa
open Go.RowKit

theorem get_any (l : List UInt8) (A : Option Addr) (cap : Nat) (w : World) (hr : Rd vB w A l) (hl : l.length ≤ 9223372036854775807) :
    Calls Try.prog 19 #[.slice A l.length cap] w fun e w' => e = .returned (.tuple #[.int .u64 ((getR l).1 : Int), .int .i64 (getR l).2]) ∧ w = w' := by
  by_cases h8 : l.length = 8
  · have hv := valN_lt8 l (by omega)
    have H : Hid (getR l = (valN l, 0)) := by unfold Hid getR; rw [if_pos h8]
    have HL := Lib.hid h8
    have h8' : ((l.length : Int) != 8) = false := by simp; omega
    clear h8
    go_enter Try.func19, Try.ntmps19
    go_wp2_with (go_at_call 25; refine (join_any l _ _ _ hr hl).mono ?_; rintro e w' ⟨rfl, rfl⟩)
    go_ret2
    exact ⟨ret_int2 (by rw [H.out]; show (valN l : Int) % _ = (valN l : Int); omega) (by rw [H.out]), rfl⟩
  · have H : Hid (getR l = (0, 1)) := by unfold Hid getR; rw [if_neg h8]
    have h8' : ((l.length : Int) != 8) = true := by simp; omega
    clear h8
    go_enter Try.func19, Try.ntmps19
    go_wp2_with fail
    go_ret2
    exact ⟨ret_int2 (by rw [H.out]; rfl) (by rw [H.out]), rfl⟩


end Go.Proofs.Ytppdfldmbfddnaa
