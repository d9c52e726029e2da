/-
  What the calls word.Get and word.FromLeast answer, for any bytes.
-/
import Derived.Test.YtobeaoooaagdkaaWordJoin
namespace Go.Proofs.Ytobeaoooaagdkaa
set_option maxRecDepth 100000
open Go.RowKit


theorem from_any (l : List UInt8) (A : Option Addr) (cap : Nat) (w : World) (hr : Rd vB w A l) (hl : l.length ≤ 9223372036854775807) :
    Calls Try.prog 26 #[.slice A l.length cap] w fun e w' => e = .returned (.tuple #[.int .u64 ((fromR l).1 : Int), .int .i64 (fromR l).2]) ∧ w = w' := by
  by_cases h8 : 8 < l.length
  · have H : Hid (fromR l = (0, 4)) := by unfold Hid fromR; rw [if_pos h8]
    go_enter Try.func26, Try.ntmps26
    go_wp2_with fail
    go_ret2
    exact ⟨ret_int2 (by rw [H.out]; rfl) (by rw [H.out]), rfl⟩
  · have hv := valN_lt8 l (by omega)
    by_cases h0 : l = []
    · subst h0
      have H : Hid (fromR [] = (0, 0)) := rfl
      have hr' : Rd vB w A [] := hr
      go_enter Try.func26, Try.ntmps26
      go_wp2_with (go_at_call 27; refine (join_any [] _ _ _ hr' (by simp)).mono ?_; rintro e w' ⟨rfl, rfl⟩)
      go_ret2
      exact ⟨ret_int2 rfl rfl, rfl⟩
    · have hpos : 0 < l.length := by
        rcases Nat.eq_zero_or_pos l.length with h | h
        · exact absurd (List.eq_nil_of_length_eq_zero h) h0
        · exact h
      obtain ⟨b, o, rfl, hb, hcell⟩ := hr.at hpos
      have hc := hcell 0 hpos
      have hh : l.head? = some l[0] := by rw [List.head?_eq_getElem?]; exact List.getElem?_eq_getElem hpos
      unfold vB at hc
      rw [Nat.add_zero] at hc
      by_cases hz : l[0] = 0
      · have H : Hid (fromR l = (0, 3)) := by unfold Hid fromR; rw [if_neg h8, hh, hz, if_pos rfl]
        have hc' : w.cell? ⟨b, o, none⟩ = some (.int .u8 0) := by rw [hc, hz]; rfl
        clear hc hcell hz hh hr
        go_enter Try.func26, Try.ntmps26
        go_wp2_with fail
        go_ret2
        exact ⟨ret_int2 (by rw [H.out]; rfl) (by rw [H.out]), rfl⟩
      · have H : Hid (fromR l = (valN l, 0)) := by unfold Hid fromR; rw [if_neg h8, hh, if_neg (by simpa using hz)]
        have hne : ((l[0].toNat : Int) == 0) = false := by
          have : l[0].toNat ≠ 0 := fun h => hz (UInt8.toNat_inj.1 h)
          simp
          omega
        generalize l[0] = c at hc hne
        clear hcell hz hh
        go_enter Try.func26, Try.ntmps26
        go_wp2_with (go_at_call 27; refine (join_any l _ _ _ hr hl).mono ?_; rintro e w' ⟨rfl, rfl⟩)
        go_ret2
        exact ⟨ret_int2 (by rw [H.out]; show (valN l : Int) % _ = (valN l : Int); omega) (by rw [H.out]), rfl⟩

end Go.Proofs.Ytobeaoooaagdkaa
