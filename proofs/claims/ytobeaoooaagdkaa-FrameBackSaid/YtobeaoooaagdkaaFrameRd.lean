/-
  What the program's reader of layer 12 does (landed code): its calls, one by one. No conditions but those typed.
-/
import Derived.Test.YtobeaoooaagdkaaFrameRead
import Derived.Test.YtobeaoooaagdkaaCel
import Derived.Test.YtobeaoooaagdkaaSlices
import Derived.Test.YtobeaoooaagdkaaWordGet
namespace Go.Proofs.Ytobeaoooaagdkaa
set_option maxRecDepth 100000
open Go.RowKit
set_option linter.unusedSimpArgs false
set_option linter.unusedVariables false

theorem Row.only {g q : Nat} {w w' : World} {t : TypeId} {l : List Value} (h : Row w q t l) (k : Only g w w') (hq : q ≠ g) : Row w' q t l := (k.other q hq h.lt).trans h
theorem lt_ne {S : List UInt8} {A : Option Addr} {g : Nat} (h : S ≠ [] → ∀ a, A = some a → a.block < g) : S ≠ [] → ∀ a, A = some a → a.block ≠ g := fun h1 a ha => Nat.ne_of_lt (h h1 a ha)
/-- The reader's block: what is left, and what was wrong. -/
def RdS (g : Nat) (S : List UInt8) (n : Nat) (k : Int) (w : World) : Prop := ∃ A c, Row w g 44 [.slice A n c, .int .i64 k] ∧ Hid (S.length = n) ∧ n ≤ c ∧ Rd vB w A S ∧ (S ≠ [] → ∀ a, A = some a → a.block < g)

theorem cut_fromB {P : Program} (t e : TypeId) (ht : P.underlying t = some (.slice e)) (hz : ∀ w, (sizeOf e).run P w = .ok 1 w) (A : Option Addr) (n cap k : Nat) (hk : k ≤ n) (hc : n ≤ cap) :
    ∃ A', (∀ w, (Instr.slice t (.slice A n cap) (some (.int .i64 (k : Int))) none none).run P w = .ok (.slice A' (n - k) (cap - k)) w) ∧
      (∀ {α : Type} (f : α → Value) (w : World) (l : List α), l.length = n → Rd f w A l → Rd f w A' (l.drop k)) ∧ (∀ a', A' = some a' → ∃ a, A = some a ∧ a'.block = a.block) := by
  have ht' : P.underlying t = some (.slice (P.elem t)) := by simp [Program.elem, ht]
  have he : P.elem t = e := by simp [Program.elem, ht]
  refine ⟨if cap = k then A else A.map (·.add (k * 1)), fun w => ?_, fun f w l hl h => h.drop k cap (by omega), fun a' h => ?_⟩
  · rw [run_slice_l w t A n cap ht' .i64 (k : Int) (by omega) (by omega), he, hz]
    simp [sliced]
  · split at h
    · exact ⟨a', h, rfl⟩
    · cases A with
      | none => cases h
      | some a =>
        injection h with h
        subst h
        exact ⟨a, rfl, by show (a.add (k * 1)).block = a.block; simp [Addr.add] <;> (try split) <;> rfl⟩
/-! ### keep -/
theorem keep_bad (g : Nat) (v : Value) (k e : Int) (w : World) (hR : Row w g 44 [v, .int .i64 k]) (hk : k ≠ 0) :
    Calls Try.prog 25 #[.pointer (some ⟨g, 0, none⟩), .int .i64 e] w fun e₁ w' => e₁ = .returned (.tuple #[]) ∧ w = w' := by
  have c1 : w.cell? ⟨g, 1, none⟩ = some (.int .i64 k) := hR.cell rfl
  have k1 : (k == 0) = false := beq_eq_false_iff_ne.2 hk
  go_enter Try.func25, Try.ntmps25
  go_wp2_with fail
  first | go_end0 | refine bodyPost_ret (results_none rfl _ _ _) rfl ?_
  exact ⟨rfl, rfl⟩
theorem keep_ok (g : Nat) (v : Value) (e : Int) (w : World) (hR : Row w g 44 [v, .int .i64 0]) :
    Calls Try.prog 25 #[.pointer (some ⟨g, 0, none⟩), .int .i64 e] w fun e₁ w' => e₁ = .returned (.tuple #[]) ∧ Row w' g 44 [v, .int .i64 e] ∧ Only g w w' := by
  have c1 : w.cell? ⟨g, 1, none⟩ = some (.int .i64 0) := hR.cell rfl
  have f1 := hR.frozen 1
  go_enter Try.func25, Try.ntmps25
  go_wp2_with fail
  first | go_end0 | refine bodyPost_ret (results_none rfl _ _ _) rfl ?_
  exact ⟨rfl, hR.setCell 1 _, (Only.refl g w).setCell 1 _⟩

/-! ### next -/
theorem next_bad (g n : Nat) (A : Option Addr) (c : Nat) (k : Int) (m : Int) (w : World) (hR : Row w g 44 [.slice A n c, .int .i64 k]) (hk : k ≠ 0) :
    Calls Try.prog 19 #[.pointer (some ⟨g, 0, none⟩), .int .i64 m] w fun e₁ w' => e₁ = .returned (.slice none 0 0) ∧ w = w' := by
  have c0 : w.cell? ⟨g, 0, none⟩ = some (.slice A n c) := hR.cell rfl
  have c1 : w.cell? ⟨g, 1, none⟩ = some (.int .i64 k) := hR.cell rfl
  have k1 : (k == 0) = false := beq_eq_false_iff_ne.2 hk
  have k2 : (k != 0) = true := by rw [bne, k1]; rfl
  by_cases h : (n : Int) < m
  · go_enter Try.func19, Try.ntmps19
    go_wp2_with fail
    refine (keep_bad g _ k 2 w hR hk).mono ?_
    rintro e₁ w1 ⟨rfl, rfl⟩
    go_wp2_with fail
    go_ret
    exact ⟨rfl, rfl⟩
  · go_enter Try.func19, Try.ntmps19
    go_wp2_with fail
    go_ret
    exact ⟨rfl, rfl⟩
theorem next_short (g : Nat) (S : List UInt8) (n m : Nat) (w : World) (h : RdS g S n 0 w) (hm : n < m) :
    Calls Try.prog 19 #[.pointer (some ⟨g, 0, none⟩), .int .i64 (m : Int)] w fun e₁ w' => e₁ = .returned (.slice none 0 0) ∧ RdS g S n 2 w' ∧ Only g w w' := by
  obtain ⟨A, c, hR, HN, hc, hr, hA⟩ := h
  have c0 : w.cell? ⟨g, 0, none⟩ = some (.slice A n c) := hR.cell rfl
  have i1 : (n : Int) < (m : Int) := by omega
  go_enter Try.func19, Try.ntmps19
  go_wp2_with fail
  refine (keep_ok g _ 2 w hR).mono ?_
  rintro e₁ w1 ⟨rfl, hR1, hO⟩
  have hr1 := hr.only hO (lt_ne hA)
  have c0 : w1.cell? ⟨g, 0, none⟩ = some (.slice A n c) := hR1.cell rfl
  have c1 : w1.cell? ⟨g, 1, none⟩ = some (.int .i64 2) := hR1.cell rfl
  go_wp2_with fail
  go_ret
  exact ⟨rfl, ⟨A, c, hR1, HN, hc, hr1, hA⟩, hO⟩
theorem next_ok (g : Nat) (S : List UInt8) (n m : Nat) (w : World) (h : RdS g S n 0 w) (hm : m ≤ n) (hn : n ≤ 100000) :
    Calls Try.prog 19 #[.pointer (some ⟨g, 0, none⟩), .int .i64 (m : Int)] w fun e₁ w' => ∃ A c, e₁ = .returned (.slice A m c) ∧ Rd vB w' A (S.take m) ∧ RdS g (S.drop m) (n - m) 0 w' ∧ Only g w w' := by
  obtain ⟨A, c, hR, HN, hc, hr, hA⟩ := h
  have c0 : w.cell? ⟨g, 0, none⟩ = some (.slice A n c) := hR.cell rfl
  have c1 : w.cell? ⟨g, 1, none⟩ = some (.int .i64 0) := hR.cell rfl
  have f0 := hR.frozen 0
  have i1 : ¬ (n : Int) < (m : Int) := by omega
  have i0 : (0 : Int) ≤ (m : Int) := by omega
  have i2 : (m : Int) ≤ (c : Int) := by omega
  obtain ⟨A', hsl, hcut, hA'⟩ := cut_fromB (P := Try.prog) 23 5 Try.underlying23 size_uint8 A n c m (by omega) (by omega)
  have hto := run_cut_to (P := Try.prog) 23 5 Try.underlying23 size_uint8 A n c m (by omega)
  have hO := (Only.refl g w).setCell 0 (.slice A' (n - m) (c - m))
  have hR' := hR.setCell 0 (.slice A' (n - m) (c - m))
  have hr1 := hcut vB w S HN.out hr
  have hr2 := hr.take m
  have hne : ∀ j, S.drop j ≠ [] → S ≠ [] := fun j h e => h (by rw [e, List.drop_nil])
  have hnt : ∀ j, S.take j ≠ [] → S ≠ [] := fun j h e => h (by rw [e, List.take_nil])
  have hX : RdS g (S.drop m) (n - m) 0 (w.setCell ⟨g, 0, none⟩ (.slice A' (n - m) (c - m))) := by
    refine ⟨A', c - m, hR', by unfold Hid; rw [List.length_drop, HN.out], by omega, hr1.only hO ?_, ?_⟩
    · intro h a' ha'
      obtain ⟨a, ha, e⟩ := hA' a' ha'
      rw [e]
      exact Nat.ne_of_lt (hA (hne m h) a ha)
    · intro h a' ha'
      obtain ⟨a, ha, e⟩ := hA' a' ha'
      rw [e]
      exact hA (hne m h) a ha
  have hY : Rd vB (w.setCell ⟨g, 0, none⟩ (.slice A' (n - m) (c - m))) A (S.take m) := hr2.only hO (fun h a ha => Nat.ne_of_lt (hA (hnt m h) a ha))
  have HX := Lib.hid (And.intro hX (And.intro hY hO))
  clear hX hY hO hR' hr1 hr2 hne hnt hA' hcut hr hA hR
  go_enter Try.func19, Try.ntmps19
  go_wp2_with fail
  go_ret
  exact ⟨A, ⟨c, rfl⟩, HX.out.2.1, HX.out.1, HX.out.2.2⟩

/-! ### one -/
theorem one_bad (g n : Nat) (A : Option Addr) (c : Nat) (k : Int) (w : World) (hR : Row w g 44 [.slice A n c, .int .i64 k]) (hk : k ≠ 0) :
    Calls Try.prog 24 #[.pointer (some ⟨g, 0, none⟩)] w fun e₁ w' => e₁ = .returned (.int .u8 0) ∧ w = w' := by
  go_enter Try.func24, Try.ntmps24
  go_wp2_with fail
  refine (next_bad g n A c k 1 w hR hk).mono ?_
  rintro e₁ w1 ⟨rfl, rfl⟩
  go_wp2_with fail
  go_ret
  exact ⟨rfl, rfl⟩
theorem one_short (g : Nat) (w : World) (h : RdS g [] 0 0 w) :
    Calls Try.prog 24 #[.pointer (some ⟨g, 0, none⟩)] w fun e₁ w' => e₁ = .returned (.int .u8 0) ∧ RdS g [] 0 2 w' ∧ Only g w w' := by
  go_enter Try.func24, Try.ntmps24
  go_wp2_with fail
  refine (next_short g [] 0 1 w h (by omega)).mono ?_
  rintro e₁ w1 ⟨rfl, h1, h2⟩
  go_wp2_with fail
  go_ret
  exact ⟨rfl, h1, h2⟩
theorem one_ok (g : Nat) (x : UInt8) (r : List UInt8) (n : Nat) (w : World) (h : RdS g (x :: r) n 0 w) (hn : n ≤ 100000) :
    Calls Try.prog 24 #[.pointer (some ⟨g, 0, none⟩)] w fun e₁ w' => e₁ = .returned (.int .u8 (x.toNat : Int)) ∧ RdS g r (n - 1) 0 w' ∧ Only g w w' := by
  have hn1 : 1 ≤ n := by
    obtain ⟨_, _, _, HN, _⟩ := h
    have := HN.out
    rw [List.length_cons] at this
    omega
  go_enter Try.func24, Try.ntmps24
  go_wp2_with fail
  refine (next_ok g (x :: r) n 1 w h hn1 hn).mono ?_
  rintro e₁ w1 ⟨A, c, rfl, hr, h1, h2⟩
  have hr' : Rd vB w1 A [x] := hr
  have h1' : RdS g r (n - 1) 0 w1 := h1
  obtain ⟨b, o, rfl, hb, hc⟩ := hr'.at (show 0 < [x].length by simp)
  have hc0 : w1.cell? ⟨b, o, none⟩ = some (.int .u8 (x.toNat : Int)) := hc 0 (by simp)
  clear hr hc h1 hr'
  go_wp2_with fail
  go_ret
  exact ⟨rfl, h1', h2⟩

/-! ### mark -/
/-- What is wrong, and what is left: if nothing is wrong. -/
def RdT (g : Nat) (k : Int) (S : List UInt8) (w : World) : Prop := ∃ S' n, RdS g S' n k w ∧ n ≤ 100000 ∧ (k = 0 → S' = S)
theorem RdT.below {g : Nat} {k : Int} {S : List UInt8} {w w' : World} (h : RdT g k S w) (hb : Below (g + 1) w w') : RdT g k S w' := by
  obtain ⟨S', n, ⟨A, c, hR, HN, hc, hr, hA⟩, hn, h2⟩ := h
  refine ⟨S', n, ⟨A, c, hR.keep hb (by omega), HN, hc, fun hne => ?_, hA⟩, hn, h2⟩
  obtain ⟨b, o, rfl, hcell⟩ := hr hne
  have hlt := hA hne _ rfl
  refine ⟨b, o, rfl, fun i hi => ?_⟩
  rw [← hcell i hi]
  exact hb.cell (p := ⟨b, o + i, none⟩) (show b < g + 1 by exact Nat.lt_succ_of_lt hlt)
theorem RdT.lt {g : Nat} {k : Int} {S : List UInt8} {w : World} (h : RdT g k S w) : g < w.heap.size := by
  obtain ⟨S', n, ⟨A, c, hR, _⟩, _⟩ := h
  exact hR.lt
def markK : List UInt8 → Int × List UInt8
  | [] => (2, [])
  | x :: r => if x ≠ 87 then (3, []) else (0, r)
theorem mark_any (g : Nat) (b : List UInt8) (n : Nat) (w : World) (h : RdS g b n 0 w) (hn : n ≤ 100000) :
    Calls Try.prog 16 #[.pointer (some ⟨g, 0, none⟩)] w fun e₁ w' => e₁ = .returned (.tuple #[]) ∧ RdT g (markK b).1 (markK b).2 w' ∧ Only g w w' := by
  cases b with
  | nil =>
    have en : n = 0 := by
      obtain ⟨_, _, _, HN, _⟩ := h
      exact HN.out.symm
    subst en
    go_enter Try.func16, Try.ntmps16
    go_wp2_with fail
    refine (one_short g w h).mono ?_
    rintro e₁ w1 ⟨rfl, h1, h2⟩
    go_wp2_with fail
    obtain ⟨A, c, hR, _⟩ := id h1
    refine (keep_bad g _ 2 3 w1 hR (by decide)).mono ?_
    rintro e₁ w2 ⟨rfl, rfl⟩
    go_wp2_with fail
    first | go_end0 | refine bodyPost_ret (results_none rfl _ _ _) rfl ?_
    exact ⟨rfl, ⟨[], 0, h1, by omega, fun h => absurd h (by decide)⟩, h2⟩
  | cons x r =>
    by_cases hx : x = 87
    · subst hx
      go_enter Try.func16, Try.ntmps16
      go_wp2_with fail
      refine (one_ok g 87 r n w h hn).mono ?_
      rintro e₁ w1 ⟨rfl, h1, h2⟩
      have e87 : ((87 : UInt8).toNat : Int) = 87 := rfl
      rw [e87]
      go_wp2_with fail
      first | go_end0 | refine bodyPost_ret (results_none rfl _ _ _) rfl ?_
      exact ⟨rfl, ⟨r, n - 1, h1, by omega, fun _ => rfl⟩, h2⟩
    · have HM : Hid (markK (x :: r) = (3, [])) := if_pos hx
      have hx2 : x.toNat ≠ 87 := fun e => hx (UInt8.toNat_inj.1 e)
      have hx3 : ((x.toNat : Int) == 87) = false := beq_eq_false_iff_ne.2 (by omega)
      have hx4 : ((x.toNat : Int) != 87) = true := by rw [bne, hx3]; rfl
      rw [HM.out]
      go_enter Try.func16, Try.ntmps16
      go_wp2_with fail
      refine (one_ok g x r n w h hn).mono ?_
      rintro e₁ w1 ⟨rfl, h1, h2⟩
      obtain ⟨A, c, hR, HN, hc, hr, hA⟩ := id h1
      go_wp2_with fail
      refine (keep_ok g _ 3 w1 hR).mono ?_
      rintro e₁ w2 ⟨rfl, hR2, h3⟩
      go_wp2_with fail
      first | go_end0 | refine bodyPost_ret (results_none rfl _ _ _) rfl ?_
      exact ⟨rfl, ⟨r, n - 1, ⟨A, c, hR2, HN, hc, hr.only h3 (lt_ne hA), hA⟩, by omega, fun h => absurd h (by decide)⟩, h2.trans h3⟩

/-! ### number -/
def nK (k : Int) (S : List UInt8) : Int × Nat × List UInt8 := if k = 0 then readN S else (k, 0, [])
theorem from_at (l : List UInt8) (n : Nat) (A : Option Addr) (cap : Nat) (w : World) (HN : Hid (l.length = n)) (hr : Rd vB w A l) (hl : n ≤ 9223372036854775807) (v : Nat) (k : Int) (HF : Hid (fromR l = (v, k))) :
    Calls Try.prog 26 #[.slice A n cap] w fun e w' => e = .returned (.tuple #[.int .u64 (v : Int), .int .i64 k]) ∧ w = w' := by
  have e := HN.out
  subst e
  have := from_any l A cap w hr hl
  rw [HF.out] at this
  exact this
theorem number_bad (g n : Nat) (A : Option Addr) (c : Nat) (k : Int) (w : World) (hR : Row w g 44 [.slice A n c, .int .i64 k]) (hk : k ≠ 0) :
    Calls Try.prog 17 #[.pointer (some ⟨g, 0, none⟩)] w fun e₁ w' => e₁ = .returned (.int .u64 0) ∧ w = w' := by
  go_enter Try.func17, Try.ntmps17
  go_wp2_with fail
  refine (one_bad g n A c k w hR hk).mono ?_
  rintro e₁ w1 ⟨rfl, rfl⟩
  go_wp2_with fail
  refine (next_bad g n A c k 0 w hR hk).mono ?_
  rintro e₁ w1 ⟨rfl, rfl⟩
  go_wp2_with fail
  refine (from_at [] 0 none 0 w (Lib.hid rfl) Rd.nil (by omega) 0 0 (Lib.hid rfl)).mono ?_
  rintro e₁ w1 ⟨rfl, rfl⟩
  go_wp2_with fail
  refine (keep_bad g _ k 0 w hR hk).mono ?_
  rintro e₁ w1 ⟨rfl, rfl⟩
  go_wp2_with fail
  go_ret
  exact ⟨rfl, rfl⟩
theorem number_empty (g : Nat) (w : World) (h : RdS g [] 0 0 w) :
    Calls Try.prog 17 #[.pointer (some ⟨g, 0, none⟩)] w fun e₁ w' => e₁ = .returned (.int .u64 0) ∧ RdS g [] 0 2 w' ∧ Only g w w' := by
  go_enter Try.func17, Try.ntmps17
  go_wp2_with fail
  refine (one_short g w h).mono ?_
  rintro e₁ w1 ⟨rfl, h1, h2⟩
  obtain ⟨A, c, hR, _⟩ := id h1
  go_wp2_with fail
  refine (next_bad g 0 A c 2 0 w1 hR (by decide)).mono ?_
  rintro e₁ w2 ⟨rfl, rfl⟩
  go_wp2_with fail
  refine (from_at [] 0 none 0 w1 (Lib.hid rfl) Rd.nil (by omega) 0 0 (Lib.hid rfl)).mono ?_
  rintro e₁ w2 ⟨rfl, rfl⟩
  go_wp2_with fail
  refine (keep_bad g _ 2 0 w1 hR (by decide)).mono ?_
  rintro e₁ w2 ⟨rfl, rfl⟩
  go_wp2_with fail
  go_ret
  exact ⟨rfl, h1, h2⟩
theorem number_long (g : Nat) (y : UInt8) (r : List UInt8) (n : Nat) (w : World) (h : RdS g (y :: r) n 0 w) (hn : n ≤ 100000) (h8 : 8 < y.toNat) :
    Calls Try.prog 17 #[.pointer (some ⟨g, 0, none⟩)] w fun e₁ w' => e₁ = .returned (.int .u64 0) ∧ RdS g r (n - 1) 4 w' ∧ Only g w w' := by
  have hO := Lib.hid (one_ok g y r n w h hn)
  have hy := y.toNat_lt
  generalize y.toNat = m at h8 hO hy
  have m8 : (8 : Int) < (m : Int) := by omega
  have mw : IntKind.i64.wrap (m : Int) = (m : Int) := by rw [IntKind.wrap_i64]; omega
  go_enter Try.func17, Try.ntmps17
  go_wp2_with fail
  refine hO.out.mono ?_
  rintro e₁ w1 ⟨rfl, h1, h2⟩
  obtain ⟨A, c, hR, HN, hc, hr, hA⟩ := id h1
  go_wp2_with fail
  refine (keep_ok g _ 4 w1 hR).mono ?_
  rintro e₁ w2 ⟨rfl, hR2, h3⟩
  have h4 : RdS g r (n - 1) 4 w2 := ⟨A, c, hR2, HN, hc, hr.only h3 (lt_ne hA), hA⟩
  go_wp2_with fail
  refine (next_bad g _ A c 4 (m : Int) w2 hR2 (by decide)).mono ?_
  rintro e₁ w3 ⟨rfl, rfl⟩
  go_wp2_with fail
  refine (from_at [] 0 none 0 w2 (Lib.hid rfl) Rd.nil (by omega) 0 0 (Lib.hid rfl)).mono ?_
  rintro e₁ w3 ⟨rfl, rfl⟩
  go_wp2_with fail
  refine (keep_bad g _ 4 0 w2 hR2 (by decide)).mono ?_
  rintro e₁ w3 ⟨rfl, rfl⟩
  go_wp2_with fail
  go_ret
  exact ⟨rfl, h4, h2.trans h3⟩
theorem number_short (g : Nat) (y : UInt8) (r : List UInt8) (n : Nat) (w : World) (h : RdS g (y :: r) n 0 w) (hn : n ≤ 100000) (h8 : ¬ 8 < y.toNat) (hs : n - 1 < y.toNat) :
    Calls Try.prog 17 #[.pointer (some ⟨g, 0, none⟩)] w fun e₁ w' => e₁ = .returned (.int .u64 0) ∧ RdS g r (n - 1) 2 w' ∧ Only g w w' := by
  have hO := Lib.hid (one_ok g y r n w h hn)
  have hy := y.toNat_lt
  generalize y.toNat = m at h8 hs hO hy
  have m8 : ¬ (8 : Int) < (m : Int) := by omega
  have mw : IntKind.i64.wrap (m : Int) = (m : Int) := by rw [IntKind.wrap_i64]; omega
  go_enter Try.func17, Try.ntmps17
  go_wp2_with fail
  refine hO.out.mono ?_
  rintro e₁ w1 ⟨rfl, h1, h2⟩
  go_wp2_with fail
  refine (next_short g r (n - 1) m w1 h1 hs).mono ?_
  rintro e₁ w2 ⟨rfl, h4, h3⟩
  obtain ⟨A, c, hR2, _⟩ := id h4
  go_wp2_with fail
  refine (from_at [] 0 none 0 w2 (Lib.hid rfl) Rd.nil (by omega) 0 0 (Lib.hid rfl)).mono ?_
  rintro e₁ w3 ⟨rfl, rfl⟩
  go_wp2_with fail
  refine (keep_bad g _ 2 0 w2 hR2 (by decide)).mono ?_
  rintro e₁ w3 ⟨rfl, rfl⟩
  go_wp2_with fail
  go_ret
  exact ⟨rfl, h4, h2.trans h3⟩
theorem number_ok (g : Nat) (y : UInt8) (r : List UInt8) (n : Nat) (w : World) (h : RdS g (y :: r) n 0 w) (hn : n ≤ 100000) (h8 : ¬ 8 < y.toNat) (hs : ¬ n - 1 < y.toNat) (v : Nat) (k : Int) (HF : Hid (fromR (r.take y.toNat) = (v, k))) :
    Calls Try.prog 17 #[.pointer (some ⟨g, 0, none⟩)] w fun e₁ w' => e₁ = .returned (.int .u64 (v : Int)) ∧ RdS g (r.drop y.toNat) (n - 1 - y.toNat) k w' ∧ Only g w w' := by
  have hO := Lib.hid (one_ok g y r n w h hn)
  have hrl : r.length = n - 1 := by
    obtain ⟨_, _, _, HN, _⟩ := h
    have := HN.out
    rw [List.length_cons] at this
    omega
  have hy := y.toNat_lt
  generalize y.toNat = m at h8 hs hO hy HF ⊢
  have m8 : ¬ (8 : Int) < (m : Int) := by omega
  have mw : IntKind.i64.wrap (m : Int) = (m : Int) := by rw [IntKind.wrap_i64]; omega
  have HL : Hid ((r.take m).length = m) := by unfold Hid; rw [List.length_take]; omega
  clear hrl
  go_enter Try.func17, Try.ntmps17
  go_wp2_with fail
  refine hO.out.mono ?_
  rintro e₁ w1 ⟨rfl, h1, h2⟩
  go_wp2_with fail
  refine (next_ok g r (n - 1) m w1 h1 (by omega) (by omega)).mono ?_
  rintro e₁ w2 ⟨A2, c2, rfl, hr2, h4, h3⟩
  obtain ⟨A, c, hR2, HN, hc, hr, hA⟩ := id h4
  go_wp2_with fail
  refine (from_at (r.take m) m A2 c2 w2 HL hr2 (by omega) v k HF).mono ?_
  rintro e₁ w3 ⟨rfl, rfl⟩
  go_wp2_with fail
  refine (keep_ok g _ k w2 hR2).mono ?_
  rintro e₁ w3 ⟨rfl, hR3, h5⟩
  have h6 : RdS g (r.drop m) (n - 1 - m) k w3 := ⟨A, c, hR3, HN, hc, hr.only h5 (lt_ne hA), hA⟩
  go_wp2_with fail
  go_ret
  exact ⟨rfl, h6, (h2.trans h3).trans h5⟩
theorem number_any (g : Nat) (k : Int) (S : List UInt8) (w : World) (h : RdT g k S w) :
    Calls Try.prog 17 #[.pointer (some ⟨g, 0, none⟩)] w fun e₁ w' => e₁ = .returned (.int .u64 ((nK k S).2.1 : Int)) ∧ RdT g (nK k S).1 (nK k S).2.2 w' ∧ Only g w w' := by
  obtain ⟨S', n, h1, hn, h2⟩ := h
  unfold nK
  by_cases hk : k = 0
  · rw [if_pos hk]
    have e := h2 hk
    subst e hk
    cases S' with
    | nil =>
      have en : n = 0 := by
        obtain ⟨_, _, _, HN, _⟩ := h1
        exact HN.out.symm
      subst en
      refine (number_empty g w h1).mono ?_
      rintro e₁ w' ⟨rfl, h3, h4⟩
      exact ⟨rfl, ⟨[], 0, h3, by omega, fun h => absurd h (by decide)⟩, h4⟩
    | cons y r =>
      have hrl : r.length = n - 1 := by
        obtain ⟨_, _, _, HN, _⟩ := h1
        have := HN.out
        rw [List.length_cons] at this
        omega
      rw [readN_cons]
      by_cases h8 : 8 < y.toNat
      · rw [if_pos h8]
        refine (number_long g y r n w h1 hn h8).mono ?_
        rintro e₁ w' ⟨rfl, h3, h4⟩
        exact ⟨rfl, ⟨r, n - 1, h3, by omega, fun h => absurd h (by decide)⟩, h4⟩
      · rw [if_neg h8]
        by_cases hs : r.length < y.toNat
        · rw [if_pos hs]
          refine (number_short g y r n w h1 hn h8 (by omega)).mono ?_
          rintro e₁ w' ⟨rfl, h3, h4⟩
          exact ⟨rfl, ⟨r, n - 1, h3, by omega, fun h => absurd h (by decide)⟩, h4⟩
        · rw [if_neg hs]
          have hl8 : ¬ 8 < (r.take y.toNat).length := by rw [List.length_take]; omega
          by_cases h0 : 0 < y.toNat ∧ r.head? = some 0
          · rw [if_pos h0]
            have hf : fromR (r.take y.toNat) = (0, 3) := by
              unfold fromR
              rw [if_neg hl8, if_pos (by rw [List.head?_take, if_neg (by omega)]; exact h0.2)]
            refine (number_ok g y r n w h1 hn h8 (by omega) 0 3 hf).mono ?_
            rintro e₁ w' ⟨rfl, h3, h4⟩
            exact ⟨rfl, ⟨_, _, h3, by omega, fun h => absurd h (by decide)⟩, h4⟩
          · rw [if_neg h0]
            have hf : fromR (r.take y.toNat) = (valN (r.take y.toNat), 0) := by
              unfold fromR
              rw [if_neg hl8, if_neg]
              intro hh
              rcases Nat.eq_zero_or_pos y.toNat with hz | hp
              · rw [hz, List.take_zero] at hh
                simp at hh
              · rw [List.head?_take, if_neg (by omega)] at hh
                exact h0 ⟨hp, hh⟩
            refine (number_ok g y r n w h1 hn h8 (by omega) _ 0 hf).mono ?_
            rintro e₁ w' ⟨rfl, h3, h4⟩
            exact ⟨rfl, ⟨_, _, h3, by omega, fun _ => rfl⟩, h4⟩
  · rw [if_neg hk]
    obtain ⟨A, c, hR, _⟩ := id h1
    refine (number_bad g n A c k w hR hk).mono ?_
    rintro e₁ w' ⟨rfl, rfl⟩
    exact ⟨rfl, ⟨S', n, h1, hn, fun h => absurd h hk⟩, Only.refl g w⟩

/-! ### end -/
def endK (k : Int) (S : List UInt8) : Int := if k = 0 ∧ S ≠ [] then 4 else k
theorem end_any (g : Nat) (k : Int) (S : List UInt8) (w : World) (h : RdT g k S w) :
    Calls Try.prog 20 #[.pointer (some ⟨g, 0, none⟩)] w fun e₁ w' => e₁ = .returned (.tuple #[]) ∧ (∃ v, Row w' g 44 [v, .int .i64 (endK k S)]) ∧ Only g w w' := by
  obtain ⟨S', n, h1, hn, h2⟩ := h
  obtain ⟨A, c, hR, HN, hc, hr, hA⟩ := h1
  have c0 : w.cell? ⟨g, 0, none⟩ = some (.slice A n c) := hR.cell rfl
  by_cases h0 : n = 0
  · have hE : endK k S = k := by
      unfold endK
      rw [if_neg]
      rintro ⟨h3, h4⟩
      rw [← h2 h3] at h4
      exact h4 (List.eq_nil_of_length_eq_zero (HN.out.trans h0))
    rw [hE]
    have i0 : ¬ (0 : Int) < (n : Int) := by omega
    clear h0
    go_enter Try.func20, Try.ntmps20
    go_wp2_with fail
    first | go_end0 | refine bodyPost_ret (results_none rfl _ _ _) rfl ?_
    exact ⟨rfl, ⟨_, hR⟩, Only.refl g w⟩
  · have i0 : (0 : Int) < (n : Int) := by omega
    by_cases hk : k = 0
    · subst hk
      have hE : endK 0 S = 4 := by
        unfold endK
        rw [if_pos]
        refine ⟨rfl, fun h4 => h0 ?_⟩
        rw [← HN.out, h2 rfl, h4]
        rfl
      rw [hE]
      clear h0
      go_enter Try.func20, Try.ntmps20
      go_wp2_with fail
      refine (keep_ok g _ 4 w hR).mono ?_
      rintro e₁ w1 ⟨rfl, hR1, h3⟩
      go_wp2_with fail
      first | go_end0 | refine bodyPost_ret (results_none rfl _ _ _) rfl ?_
      exact ⟨rfl, ⟨_, hR1⟩, h3⟩
    · have hE : endK k S = k := if_neg (fun h => hk h.1)
      rw [hE]
      clear h0
      go_enter Try.func20, Try.ntmps20
      go_wp2_with fail
      refine (keep_bad g _ k 4 w hR hk).mono ?_
      rintro e₁ w1 ⟨rfl, rfl⟩
      go_wp2_with fail
      first | go_end0 | refine bodyPost_ret (results_none rfl _ _ _) rfl ?_
      exact ⟨rfl, ⟨_, hR⟩, Only.refl g w⟩

/-! ### the Tag's bytes -/
def tagK (k : Int) (S : List UInt8) : Int × List UInt8 := if k = 0 then if S.length < 8 then (2, []) else (0, S.take 8) else (k, [])
theorem tag_any (g : Nat) (k : Int) (S : List UInt8) (w : World) (h : RdT g k S w) :
    Calls Try.prog 19 #[.pointer (some ⟨g, 0, none⟩), .int .i64 8] w fun e₁ w' => (∃ A n c, e₁ = .returned (.slice A n c) ∧ Hid ((tagK k S).2.length = n) ∧ n ≤ 8 ∧ Rd vB w' A (tagK k S).2) ∧ RdT g (tagK k S).1 (S.drop 8) w' ∧ Only g w w' := by
  obtain ⟨S', n, h1, hn, h2⟩ := h
  unfold tagK
  by_cases hk : k = 0
  · have e := h2 hk
    subst e hk
    rw [if_pos rfl]
    obtain ⟨A, c, hR, HN, hc, hr, hA⟩ := id h1
    by_cases h8 : n < 8
    · rw [if_pos (by rw [HN.out]; exact h8)]
      refine (next_short g S' n 8 w h1 h8).mono ?_
      rintro e₁ w1 ⟨rfl, h3, h4⟩
      exact ⟨⟨none, 0, 0, rfl, Lib.hid rfl, by omega, Rd.nil⟩, ⟨S', n, h3, hn, fun h => absurd h (by decide)⟩, h4⟩
    · rw [if_neg (by rw [HN.out]; exact h8)]
      refine (next_ok g S' n 8 w h1 (by omega) hn).mono ?_
      rintro e₁ w1 ⟨A1, c1, rfl, hr1, h3, h4⟩
      exact ⟨⟨A1, 8, c1, rfl, by unfold Hid; rw [List.length_take, HN.out]; omega, by omega, hr1⟩, ⟨_, _, h3, by omega, fun _ => rfl⟩, h4⟩
  · rw [if_neg hk]
    obtain ⟨A, c, hR, _⟩ := id h1
    refine (next_bad g n A c k 8 w hR hk).mono ?_
    rintro e₁ w' ⟨rfl, rfl⟩
    exact ⟨⟨none, 0, 0, rfl, Lib.hid rfl, by omega, Rd.nil⟩, ⟨S', n, h1, hn, fun h => absurd h hk⟩, Only.refl g w⟩

/-! ### the whole -/
theorem endK_bad {k : Int} (S : List UInt8) (h : k ≠ 0) : endK k S = k := if_neg (fun e => h e.1)
theorem nK_bad {k : Int} (S : List UInt8) (h : k ≠ 0) : nK k S = (k, 0, []) := if_neg h
theorem tagK_bad {k : Int} (S : List UInt8) (h : k ≠ 0) : tagK k S = (k, []) := if_neg h
/-- Step by step it is readF: its code; and all of it, where nothing is wrong. -/
theorem steps_read {b : List UInt8} {k0 k1 k2 k3 k4 : Int} {S0 S1 S2 S3 T : List UInt8} {t e c : Nat} (h0 : markK b = (k0, S0)) (h1 : nK k0 S0 = (k1, t, S1)) (h2 : nK k1 S1 = (k2, e, S2)) (h3 : nK k2 S2 = (k3, c, S3)) (h4 : tagK k3 S3 = (k4, T)) :
    readF b = if endK k4 (S3.drop 8) = 0 then (0, t, e, c, T) else (endK k4 (S3.drop 8), 0, 0, 0, []) := by
  have bad : ∀ {k : Int} {S : List UInt8}, k ≠ 0 → (if endK k S = 0 then ((0 : Int), t, e, c, T) else (endK k S, 0, 0, 0, [])) = (k, 0, 0, 0, []) := fun {k S} h => by rw [endK_bad S h, if_neg h]
  have b4 : k3 ≠ 0 → k4 = k3 := fun h => by rw [tagK_bad _ h] at h4; exact (congrArg Prod.fst h4).symm
  have b3 : k2 ≠ 0 → k3 = k2 := fun h => by rw [nK_bad _ h] at h3; exact (congrArg Prod.fst h3).symm
  have b2 : k1 ≠ 0 → k2 = k1 := fun h => by rw [nK_bad _ h] at h2; exact (congrArg Prod.fst h2).symm
  have b1 : k0 ≠ 0 → k1 = k0 := fun h => by rw [nK_bad _ h] at h1; exact (congrArg Prod.fst h1).symm
  by_cases z0 : k0 = 0
  · subst z0
    cases b with
    | nil => simp [markK] at h0
    | cons x r =>
      have e0 : x = 87 ∧ r = S0 := by
        unfold markK at h0
        dsimp only at h0
        split at h0
        · simp at h0
        · rename_i hx
          exact ⟨Classical.byContradiction hx, congrArg Prod.snd h0⟩
      obtain ⟨rfl, rfl⟩ := e0
      rw [readF_cons, if_neg (by simp)]
      unfold nK at h1
      rw [if_pos rfl] at h1
      unfold readB
      rw [h1]
      by_cases z1 : k1 = 0
      · subst z1
        rw [if_pos rfl]
        unfold nK at h2
        rw [if_pos rfl] at h2
        unfold readE
        dsimp only
        rw [h2]
        by_cases z2 : k2 = 0
        · subst z2
          rw [if_pos rfl]
          unfold nK at h3
          rw [if_pos rfl] at h3
          unfold readC
          dsimp only
          rw [h3]
          by_cases z3 : k3 = 0
          · subst z3
            rw [if_pos rfl]
            unfold tagK at h4
            rw [if_pos rfl] at h4
            unfold readT
            dsimp only
            by_cases h8 : S3.length < 8
            · rw [if_pos h8] at h4 ⊢
              have ek : k4 = 2 := (congrArg Prod.fst h4).symm
              rw [ek, bad (by decide)]
            · rw [if_neg h8] at h4 ⊢
              have ek : k4 = 0 := (congrArg Prod.fst h4).symm
              have eT : T = S3.take 8 := (congrArg Prod.snd h4).symm
              rw [ek, eT]
              by_cases h9 : 8 < S3.length
              · rw [if_pos h9]
                have hE : endK 0 (S3.drop 8) = 4 := if_pos ⟨rfl, fun h => by have := congrArg List.length h; rw [List.length_drop, List.length_nil] at this; omega⟩
                rw [hE, if_neg (by decide)]
              · rw [if_neg h9]
                have hE : endK 0 (S3.drop 8) = 0 := if_neg (fun h => h.2 (List.drop_of_length_le (by omega)))
                rw [hE, if_pos rfl, List.take_of_length_le (by omega)]
          · rw [if_neg z3]
            rw [b4 z3, bad z3]
        · rw [if_neg z2]
          have e3 := b3 z2
          rw [b4 (by rw [e3]; exact z2), e3, bad z2]
      · rw [if_neg z1]
        have e2 := b2 z1
        have e3 := b3 (by rw [e2]; exact z1)
        rw [e2] at e3
        rw [b4 (by rw [e3]; exact z1), e3, bad z1]
  · have e1 := b1 z0
    have e2 := b2 (by rw [e1]; exact z0)
    rw [e1] at e2
    have e3 := b3 (by rw [e2]; exact z0)
    rw [e2] at e3
    rw [b4 (by rw [e3]; exact z0), e3, bad z0]
    cases b with
    | nil =>
      have e : (2 : Int) = k0 := congrArg Prod.fst h0
      rw [← e]
      rfl
    | cons x r =>
      rw [readF_cons]
      unfold markK at h0
      dsimp only at h0
      split at h0
      · rename_i hx
        rw [if_pos hx]
        have e : (3 : Int) = k0 := congrArg Prod.fst h0
        rw [← e]
      · exact absurd (congrArg Prod.fst h0).symm z0
end Go.Proofs.Ytobeaoooaagdkaa
