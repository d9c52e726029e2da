/-
  What the program's calls More and End of layer 2 answer, said of the text that came: a text in parts has the state, the rest and the hash of the whole. Condition: the package's table holds the sixty-four constants.
-/
import Derived.Test.YtdokbhcoekffpaaDoorShaMore
namespace Go.Proofs.YtdokbhcoekffpaaDoor
open Go.RowKit
set_option linter.unusedSimpArgs false
set_option linter.unusedVariables false

theorem from_append : ∀ (n : Nat) (s : St) (t b : List UInt8), t.length ≤ n → s.from (t ++ b) = (s.from t).from (restL t ++ b) ∧ restL (t ++ b) = restL (restL t ++ b)
  | n, s, t, b, hn => by
    by_cases h : 64 ≤ t.length
    · match n, hn with
      | 0, hn => omega
      | n + 1, hn =>
        have ih := from_append n (s.block (t.take 64)) (t.drop 64) b (by simp; omega)
        have e1 : (t ++ b).take 64 = t.take 64 := List.take_append_of_le_length h
        have e2 : (t ++ b).drop 64 = t.drop 64 ++ b := List.drop_append_of_le_length h
        rw [from_step s (t ++ b) (by simp; omega), e1, e2, from_step s t h, restL_step t h, restL_step (t ++ b) (by simp; omega), e2]
        exact ih
    · rw [from_stop s t h, restL_short t (by omega)]
      exact ⟨rfl, rfl⟩

/-- The hash of a text that goes on. -/
def HashOf (s : St) (t : List UInt8) (S : St) (R : List UInt8) (m : Nat) : Prop := S = s.from t ∧ R = restL t ∧ m = t.length % 18446744073709551616
theorem HashOf.more {s : St} {t b : List UInt8} {S : St} {R : List UInt8} {m : Nat} (h : HashOf s t S R m) : HashOf s (t ++ b) (S.from (R ++ b)) (restL (R ++ b)) ((m + b.length) % 18446744073709551616) := by
  obtain ⟨rfl, rfl, rfl⟩ := h
  obtain ⟨e1, e2⟩ := from_append t.length s t b (Nat.le_refl _)
  exact ⟨e1.symm, e2.symm, by rw [List.length_append]; omega⟩
theorem HashOf.none (s : St) : HashOf s [] s [] 0 := ⟨(from_stop s [] (by simp)).symm, rfl, rfl⟩
theorem HashOf.rest {s : St} {t : List UInt8} {S : St} {R : List UInt8} {m : Nat} (h : HashOf s t S R m) : R.length < 64 ∧ m < 18446744073709551616 := by
  obtain ⟨rfl, rfl, rfl⟩ := h
  exact ⟨by rw [restL_length]; omega, Nat.mod_lt _ (by omega)⟩

theorem more_text (s : St) (t b : List UInt8) (S : St) (R : List UInt8) (A B : Option Addr) (c d m : Nat) (w : World) (HH : Hid (HashOf s t S R m)) (hr : Rd vB w A R) (hb : Rd vB w B b) (hbl : b.length ≤ 1000000) (HK : Hid (KTab w)) :
    Calls Tryd.prog 13 #[.agg #[.int .u32 (S.a.toNat : Int), .int .u32 (S.b.toNat : Int), .int .u32 (S.c.toNat : Int), .int .u32 (S.d.toNat : Int), .int .u32 (S.e.toNat : Int), .int .u32 (S.f.toNat : Int), .int .u32 (S.g.toNat : Int), .int .u32 (S.h.toNat : Int), .slice A R.length c, .int .u64 (m : Int)], .slice B b.length d] w fun e w' =>
      ∃ (S' : St) (R' : List UInt8) (A' : Option Addr) (c' m' : Nat), Hid (HashOf s (t ++ b) S' R' m') ∧ e = .returned (.tuple #[.agg #[.int .u32 (S'.a.toNat : Int), .int .u32 (S'.b.toNat : Int), .int .u32 (S'.c.toNat : Int), .int .u32 (S'.d.toNat : Int), .int .u32 (S'.e.toNat : Int), .int .u32 (S'.f.toNat : Int), .int .u32 (S'.g.toNat : Int), .int .u32 (S'.h.toNat : Int), .slice A' R'.length c', .int .u64 (m' : Int)], .int .i64 0]) ∧ R'.length ≤ c' ∧ R'.length < 64 ∧ Rd vB w' A' R' ∧ (∀ a, A' = some a → w.heap.size ≤ a.block) ∧ Below w.heap.size w w' := by
  obtain ⟨h1, h2⟩ := HH.out.rest
  refine (more_any S R b (R ++ b) A B c d m w rfl hr hb h1 (by rw [List.length_append]; omega) (by omega) h2 HK).mono ?_
  rintro e w' ⟨S', A', c', m', HS, HM, rfl, hc, hr', hN', hb'⟩
  exact ⟨S', restL (R ++ b), A', c', m', by have := HH.out.more (b := b); rw [← HS.out, ← HM.out] at this; exact this, rfl, hc, by rw [restL_length]; omega, hr', hN', hb'⟩

theorem sumL_length (b : List UInt8) : (sumL b).length = 32 := by rw [sumL, bytesL_length]; rfl

theorem end_text (t : List UInt8) (S : St) (R : List UInt8) (A : Option Addr) (c m : Nat) (w : World) (HH : Hid (HashOf startSt t S R m)) (ht : t.length < 18446744073709551616) (hr : Rd vB w A R) (HK : Hid (KTab w)) :
    Calls Tryd.prog 14 #[.agg #[.int .u32 (S.a.toNat : Int), .int .u32 (S.b.toNat : Int), .int .u32 (S.c.toNat : Int), .int .u32 (S.d.toNat : Int), .int .u32 (S.e.toNat : Int), .int .u32 (S.f.toNat : Int), .int .u32 (S.g.toNat : Int), .int .u32 (S.h.toNat : Int), .slice A R.length c, .int .u64 (m : Int)]] w (RetE w (sumL t) 0) := by
  obtain ⟨h1, h2⟩ := HH.out.rest
  have e : bytesL (S.from (fillL R m)).toL = sumL t := by
    obtain ⟨rfl, rfl, rfl⟩ := HH.out
    rw [Nat.mod_eq_of_lt ht, sumL, from_fill t.length t.length startSt t (Nat.le_refl _)]
  rw [← e]
  exact end_any S R A c m w hr h1 h2 HK

end Go.Proofs.YtdokbhcoekffpaaDoor
