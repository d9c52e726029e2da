/-
  What the program's reader of layer 12 does (landed code): its calls, one by one. No conditions but those typed.
-/
import Derived.Test.YtcnjackbiimjdaaGreatDoorQ4
import Derived.WalkKit
import Derived.WalkSpells
import Derived.LoopTactic
import Derived.Lib.Hide
import Derived.Deep.DeepCutAuto
namespace Go.Proofs.YtcnjackbiimjdaaGreatDoor
set_option maxRecDepth 100000
open Go.RowKit
set_option linter.unusedSimpArgs false
set_option linter.unusedVariables false

theorem Row.only {g q : Nat} {w w' : World} {t : TypeId} {l : List Value} (h : Row w q t l) (k : Only g w w') (hq : q ≠ g) : Row w' q t l := (k.other q hq h.lt).trans h
theorem lt_ne {S : List UInt8} {A : Option Addr} {g : Nat} (h : S ≠ [] → ∀ a, A = some a → a.block < g) : S ≠ [] → ∀ a, A = some a → a.block ≠ g := fun h1 a ha => Nat.ne_of_lt (h h1 a ha)
/-- The reader's block: what is left, and what was wrong. -/
def RdS (g : Nat) (S : List UInt8) (n : Nat) (k : Int) (w : World) : Prop := ∃ A c, Row w g 97 [.slice A n c, .int .i64 k] ∧ Hid (S.length = n) ∧ n ≤ c ∧ Rd vB w A S ∧ (S ≠ [] → ∀ a, A = some a → a.block < g)

theorem cut_fromB {P : Program} (t e : TypeId) (ht : P.underlying t = some (.slice e)) (hz : ∀ w, (sizeOf e).run P w = .ok 1 w) (A : Option Addr) (n cap k : Nat) (hk : k ≤ n) (hc : n ≤ cap) :
    ∃ A', (∀ w, (Instr.slice t (.slice A n cap) (some (.int .i64 (k : Int))) none none).run P w = .ok (.slice A' (n - k) (cap - k)) w) ∧
      (∀ {α : Type} (f : α → Value) (w : World) (l : List α), l.length = n → Rd f w A l → Rd f w A' (l.drop k)) ∧ (∀ a', A' = some a' → ∃ a, A = some a ∧ a'.block = a.block) := by
  have ht' : P.underlying t = some (.slice (P.elem t)) := by simp [Program.elem, ht]
  have he : P.elem t = e := by simp [Program.elem, ht]
  refine ⟨if cap = k then A else A.map (·.add (k * 1)), fun w => ?_, fun f w l hl h => h.drop k cap (by omega), fun a' h => ?_⟩
  · rw [run_slice_l w t A n cap ht' .i64 (k : Int) (by omega) (by omega), he, hz]
    simp [sliced]
  · split at h
    · exact ⟨a', h, rfl⟩
    · cases A with
      | none => cases h
      | some a =>
        injection h with h
        subst h
        exact ⟨a, rfl, by show (a.add (k * 1)).block = a.block; simp [Addr.add] <;> (try split) <;> rfl⟩
/-! ### keep -/
theorem keep_bad (g : Nat) (v : Value) (k e : Int) (w : World) (hR : Row w g 97 [v, .int .i64 k]) (hk : k ≠ 0) :
    Calls Tryz.prog 83 #[.pointer (some ⟨g, 0, none⟩), .int .i64 e] w fun e₁ w' => e₁ = .returned (.tuple #[]) ∧ w = w' := by
  have c1 : w.cell? ⟨g, 1, none⟩ = some (.int .i64 k) := hR.cell rfl
  have k1 : (k == 0) = false := beq_eq_false_iff_ne.2 hk
  go_enter Tryz.func83, Tryz.ntmps83
  go_wp2_with fail
  first | go_end0 | refine bodyPost_ret (results_none rfl _ _ _) rfl ?_
  exact ⟨rfl, rfl⟩
theorem keep_ok (g : Nat) (v : Value) (e : Int) (w : World) (hR : Row w g 97 [v, .int .i64 0]) :
    Calls Tryz.prog 83 #[.pointer (some ⟨g, 0, none⟩), .int .i64 e] w fun e₁ w' => e₁ = .returned (.tuple #[]) ∧ Row w' g 97 [v, .int .i64 e] ∧ Only g w w' := by
  have c1 : w.cell? ⟨g, 1, none⟩ = some (.int .i64 0) := hR.cell rfl
  have f1 := hR.frozen 1
  go_enter Tryz.func83, Tryz.ntmps83
  go_wp2_with fail
  first | go_end0 | refine bodyPost_ret (results_none rfl _ _ _) rfl ?_
  exact ⟨rfl, hR.setCell 1 _, (Only.refl g w).setCell 1 _⟩

/-! ### next -/
theorem next_bad (g n : Nat) (A : Option Addr) (c : Nat) (k : Int) (m : Int) (w : World) (hR : Row w g 97 [.slice A n c, .int .i64 k]) (hk : k ≠ 0) :
    Calls Tryz.prog 51 #[.pointer (some ⟨g, 0, none⟩), .int .i64 m] w fun e₁ w' => e₁ = .returned (.slice none 0 0) ∧ w = w' := by
  have c0 : w.cell? ⟨g, 0, none⟩ = some (.slice A n c) := hR.cell rfl
  have c1 : w.cell? ⟨g, 1, none⟩ = some (.int .i64 k) := hR.cell rfl
  have k1 : (k == 0) = false := beq_eq_false_iff_ne.2 hk
  have k2 : (k != 0) = true := by rw [bne, k1]; rfl
  by_cases h : (n : Int) < m
  · go_enter Tryz.func51, Tryz.ntmps51
    go_wp2_with fail
    refine (keep_bad g _ k 2 w hR hk).mono ?_
    rintro e₁ w1 ⟨rfl, rfl⟩
    go_wp2_with fail
    go_ret
    exact ⟨rfl, rfl⟩
  · go_enter Tryz.func51, Tryz.ntmps51
    go_wp2_with fail
    go_ret
    exact ⟨rfl, rfl⟩
theorem next_short (g : Nat) (S : List UInt8) (n m : Nat) (w : World) (h : RdS g S n 0 w) (hm : n < m) :
    Calls Tryz.prog 51 #[.pointer (some ⟨g, 0, none⟩), .int .i64 (m : Int)] w fun e₁ w' => e₁ = .returned (.slice none 0 0) ∧ RdS g S n 2 w' ∧ Only g w w' := by
  obtain ⟨A, c, hR, HN, hc, hr, hA⟩ := h
  have c0 : w.cell? ⟨g, 0, none⟩ = some (.slice A n c) := hR.cell rfl
  have i1 : (n : Int) < (m : Int) := by omega
  go_enter Tryz.func51, Tryz.ntmps51
  go_wp2_with fail
  refine (keep_ok g _ 2 w hR).mono ?_
  rintro e₁ w1 ⟨rfl, hR1, hO⟩
  have hr1 := hr.only hO (lt_ne hA)
  have c0 : w1.cell? ⟨g, 0, none⟩ = some (.slice A n c) := hR1.cell rfl
  have c1 : w1.cell? ⟨g, 1, none⟩ = some (.int .i64 2) := hR1.cell rfl
  go_wp2_with fail
  go_ret
  exact ⟨rfl, ⟨A, c, hR1, HN, hc, hr1, hA⟩, hO⟩
theorem next_ok (g : Nat) (S : List UInt8) (n m : Nat) (w : World) (h : RdS g S n 0 w) (hm : m ≤ n) (hn : n ≤ 100000) :
    Calls Tryz.prog 51 #[.pointer (some ⟨g, 0, none⟩), .int .i64 (m : Int)] w fun e₁ w' => ∃ A c, e₁ = .returned (.slice A m c) ∧ Rd vB w' A (S.take m) ∧ RdS g (S.drop m) (n - m) 0 w' ∧ Only g w w' := by
  obtain ⟨A, c, hR, HN, hc, hr, hA⟩ := h
  have c0 : w.cell? ⟨g, 0, none⟩ = some (.slice A n c) := hR.cell rfl
  have c1 : w.cell? ⟨g, 1, none⟩ = some (.int .i64 0) := hR.cell rfl
  have f0 := hR.frozen 0
  have i1 : ¬ (n : Int) < (m : Int) := by omega
  have i0 : (0 : Int) ≤ (m : Int) := by omega
  have i2 : (m : Int) ≤ (c : Int) := by omega
  obtain ⟨A', hsl, hcut, hA'⟩ := cut_fromB (P := Tryz.prog) 23 5 Tryz.underlying23 size_uint8 A n c m (by omega) (by omega)
  have hto := run_cut_to (P := Tryz.prog) 23 5 Tryz.underlying23 size_uint8 A n c m (by omega)
  have hO := (Only.refl g w).setCell 0 (.slice A' (n - m) (c - m))
  have hR' := hR.setCell 0 (.slice A' (n - m) (c - m))
  have hr1 := hcut vB w S HN.out hr
  have hr2 := hr.take m
  have hne : ∀ j, S.drop j ≠ [] → S ≠ [] := fun j h e => h (by rw [e, List.drop_nil])
  have hnt : ∀ j, S.take j ≠ [] → S ≠ [] := fun j h e => h (by rw [e, List.take_nil])
  have hX : RdS g (S.drop m) (n - m) 0 (w.setCell ⟨g, 0, none⟩ (.slice A' (n - m) (c - m))) := by
    refine ⟨A', c - m, hR', by unfold Hid; rw [List.length_drop, HN.out], by omega, hr1.only hO ?_, ?_⟩
    · intro h a' ha'
      obtain ⟨a, ha, e⟩ := hA' a' ha'
      rw [e]
      exact Nat.ne_of_lt (hA (hne m h) a ha)
    · intro h a' ha'
      obtain ⟨a, ha, e⟩ := hA' a' ha'
      rw [e]
      exact hA (hne m h) a ha
  have hY : Rd vB (w.setCell ⟨g, 0, none⟩ (.slice A' (n - m) (c - m))) A (S.take m) := hr2.only hO (fun h a ha => Nat.ne_of_lt (hA (hnt m h) a ha))
  have HX := Lib.hid (And.intro hX (And.intro hY hO))
  clear hX hY hO hR' hr1 hr2 hne hnt hA' hcut hr hA hR
  go_enter Tryz.func51, Tryz.ntmps51
  go_wp2_with fail
  go_ret
  exact ⟨A, ⟨c, rfl⟩, HX.out.2.1, HX.out.1, HX.out.2.2⟩

/-! ### one -/
theorem one_bad (g n : Nat) (A : Option Addr) (c : Nat) (k : Int) (w : World) (hR : Row w g 97 [.slice A n c, .int .i64 k]) (hk : k ≠ 0) :
    Calls Tryz.prog 82 #[.pointer (some ⟨g, 0, none⟩)] w fun e₁ w' => e₁ = .returned (.int .u8 0) ∧ w = w' := by
  go_enter Tryz.func82, Tryz.ntmps82
  go_wp2_with fail
  refine (next_bad g n A c k 1 w hR hk).mono ?_
  rintro e₁ w1 ⟨rfl, rfl⟩
  go_wp2_with fail
  go_ret
  exact ⟨rfl, rfl⟩
theorem one_short (g : Nat) (w : World) (h : RdS g [] 0 0 w) :
    Calls Tryz.prog 82 #[.pointer (some ⟨g, 0, none⟩)] w fun e₁ w' => e₁ = .returned (.int .u8 0) ∧ RdS g [] 0 2 w' ∧ Only g w w' := by
  go_enter Tryz.func82, Tryz.ntmps82
  go_wp2_with fail
  refine (next_short g [] 0 1 w h (by omega)).mono ?_
  rintro e₁ w1 ⟨rfl, h1, h2⟩
  go_wp2_with fail
  go_ret
  exact ⟨rfl, h1, h2⟩
theorem one_ok (g : Nat) (x : UInt8) (r : List UInt8) (n : Nat) (w : World) (h : RdS g (x :: r) n 0 w) (hn : n ≤ 100000) :
    Calls Tryz.prog 82 #[.pointer (some ⟨g, 0, none⟩)] w fun e₁ w' => e₁ = .returned (.int .u8 (x.toNat : Int)) ∧ RdS g r (n - 1) 0 w' ∧ Only g w w' := by
  have hn1 : 1 ≤ n := by
    obtain ⟨_, _, _, HN, _⟩ := h
    have := HN.out
    rw [List.length_cons] at this
    omega
  go_enter Tryz.func82, Tryz.ntmps82
  go_wp2_with fail
  refine (next_ok g (x :: r) n 1 w h hn1 hn).mono ?_
  rintro e₁ w1 ⟨A, c, rfl, hr, h1, h2⟩
  have hr' : Rd vB w1 A [x] := hr
  have h1' : RdS g r (n - 1) 0 w1 := h1
  obtain ⟨b, o, rfl, hb, hc⟩ := hr'.at (show 0 < [x].length by simp)
  have hc0 : w1.cell? ⟨b, o, none⟩ = some (.int .u8 (x.toNat : Int)) := hc 0 (by simp)
  clear hr hc h1 hr'
  go_wp2_with fail
  go_ret
  exact ⟨rfl, h1', h2⟩

/-! ### mark -/
/-- What is wrong, and what is left: if nothing is wrong. -/
def RdT (g : Nat) (k : Int) (S : List UInt8) (w : World) : Prop := ∃ S' n, RdS g S' n k w ∧ n ≤ 100000 ∧ (k = 0 → S' = S)
theorem RdT.below {g : Nat} {k : Int} {S : List UInt8} {w w' : World} (h : RdT g k S w) (hb : Below (g + 1) w w') : RdT g k S w' := by
  obtain ⟨S', n, ⟨A, c, hR, HN, hc, hr, hA⟩, hn, h2⟩ := h
  refine ⟨S', n, ⟨A, c, hR.keep hb (by omega), HN, hc, fun hne => ?_, hA⟩, hn, h2⟩
  obtain ⟨b, o, rfl, hcell⟩ := hr hne
  have hlt := hA hne _ rfl
  refine ⟨b, o, rfl, fun i hi => ?_⟩
  rw [← hcell i hi]
  exact hb.cell (p := ⟨b, o + i, none⟩) (show b < g + 1 by exact Nat.lt_succ_of_lt hlt)
theorem RdT.lt {g : Nat} {k : Int} {S : List UInt8} {w : World} (h : RdT g k S w) : g < w.heap.size := by
  obtain ⟨S', n, ⟨A, c, hR, _⟩, _⟩ := h
  exact hR.lt
def markK : List UInt8 → Int × List UInt8
  | [] => (2, [])
  | x :: r => if x ≠ 87 then (3, []) else (0, r)
theorem mark_any (g : Nat) (b : List UInt8) (n : Nat) (w : World) (h : RdS g b n 0 w) (hn : n ≤ 100000) :
    Calls Tryz.prog 49 #[.pointer (some ⟨g, 0, none⟩)] w fun e₁ w' => e₁ = .returned (.tuple #[]) ∧ RdT g (markK b).1 (markK b).2 w' ∧ Only g w w' := by
  cases b with
  | nil =>
    have en : n = 0 := by
      obtain ⟨_, _, _, HN, _⟩ := h
      exact HN.out.symm
    subst en
    go_enter Tryz.func49, Tryz.ntmps49
    go_wp2_with fail
    refine (one_short g w h).mono ?_
    rintro e₁ w1 ⟨rfl, h1, h2⟩
    go_wp2_with fail
    obtain ⟨A, c, hR, _⟩ := id h1
    refine (keep_bad g _ 2 3 w1 hR (by decide)).mono ?_
    rintro e₁ w2 ⟨rfl, rfl⟩
    go_wp2_with fail
    first | go_end0 | refine bodyPost_ret (results_none rfl _ _ _) rfl ?_
    exact ⟨rfl, ⟨[], 0, h1, by omega, fun h => absurd h (by decide)⟩, h2⟩
  | cons x r =>
    by_cases hx : x = 87
    · subst hx
      go_enter Tryz.func49, Tryz.ntmps49
      go_wp2_with fail
      refine (one_ok g 87 r n w h hn).mono ?_
      rintro e₁ w1 ⟨rfl, h1, h2⟩
      have e87 : ((87 : UInt8).toNat : Int) = 87 := rfl
      rw [e87]
      go_wp2_with fail
      first | go_end0 | refine bodyPost_ret (results_none rfl _ _ _) rfl ?_
      exact ⟨rfl, ⟨r, n - 1, h1, by omega, fun _ => rfl⟩, h2⟩
    · have HM : Hid (markK (x :: r) = (3, [])) := if_pos hx
      have hx2 : x.toNat ≠ 87 := fun e => hx (UInt8.toNat_inj.1 e)
      have hx3 : ((x.toNat : Int) == 87) = false := beq_eq_false_iff_ne.2 (by omega)
      have hx4 : ((x.toNat : Int) != 87) = true := by rw [bne, hx3]; rfl
      rw [HM.out]
      go_enter Tryz.func49, Tryz.ntmps49
      go_wp2_with fail
      refine (one_ok g x r n w h hn).mono ?_
      rintro e₁ w1 ⟨rfl, h1, h2⟩
      obtain ⟨A, c, hR, HN, hc, hr, hA⟩ := id h1
      go_wp2_with fail
      refine (keep_ok g _ 3 w1 hR).mono ?_
      rintro e₁ w2 ⟨rfl, hR2, h3⟩
      go_wp2_with fail
      first | go_end0 | refine bodyPost_ret (results_none rfl _ _ _) rfl ?_
      exact ⟨rfl, ⟨r, n - 1, ⟨A, c, hR2, HN, hc, hr.only h3 (lt_ne hA), hA⟩, by omega, fun h => absurd h (by decide)⟩, h2.trans h3⟩

/-! ### number -/
def nK (k : Int) (S : List UInt8) : Int × Nat × List UInt8 := if k = 0 then readN S else (k, 0, [])
theorem from_at (l : List UInt8) (n : Nat) (A : Option Addr) (cap : Nat) (w : World) (HN : Hid (l.length = n)) (hr : Rd vB w A l) (hl : n ≤ 9223372036854775807) (v : Nat) (k : Int) (HF : Hid (fromR l = (v, k))) :
    Calls Tryz.prog 84 #[.slice A n cap] w fun e w' => e = .returned (.tuple #[.int .u64 (v : Int), .int .i64 k]) ∧ w = w' := by
  have e := HN.out
  subst e
  have := from_any l A cap w hr hl
  rw [HF.out] at this
  exact this
theorem number_bad (g n : Nat) (A : Option Addr) (c : Nat) (k : Int) (w : World) (hR : Row w g 97 [.slice A n c, .int .i64 k]) (hk : k ≠ 0) :
    Calls Tryz.prog 50 #[.pointer (some ⟨g, 0, none⟩)] w fun e₁ w' => e₁ = .returned (.int .u64 0) ∧ w = w' := by
  go_enter Tryz.func50, Tryz.ntmps50
  go_wp2_with fail
  refine (one_bad g n A c k w hR hk).mono ?_
  rintro e₁ w1 ⟨rfl, rfl⟩
  go_wp2_with fail
  refine (next_bad g n A c k 0 w hR hk).mono ?_
  rintro e₁ w1 ⟨rfl, rfl⟩
  go_wp2_with fail
  refine (from_at [] 0 none 0 w (Lib.hid rfl) Rd.nil (by omega) 0 0 (Lib.hid rfl)).mono ?_
  rintro e₁ w1 ⟨rfl, rfl⟩
  go_wp2_with fail
  refine (keep_bad g _ k 0 w hR hk).mono ?_
  rintro e₁ w1 ⟨rfl, rfl⟩
  go_wp2_with fail
  go_ret
  exact ⟨rfl, rfl⟩
theorem number_empty (g : Nat) (w : World) (h : RdS g [] 0 0 w) :
    Calls Tryz.prog 50 #[.pointer (some ⟨g, 0, none⟩)] w fun e₁ w' => e₁ = .returned (.int .u64 0) ∧ RdS g [] 0 2 w' ∧ Only g w w' := by
  go_enter Tryz.func50, Tryz.ntmps50
  go_wp2_with fail
  refine (one_short g w h).mono ?_
  rintro e₁ w1 ⟨rfl, h1, h2⟩
  obtain ⟨A, c, hR, _⟩ := id h1
  go_wp2_with fail
  refine (next_bad g 0 A c 2 0 w1 hR (by decide)).mono ?_
  rintro e₁ w2 ⟨rfl, rfl⟩
  go_wp2_with fail
  refine (from_at [] 0 none 0 w1 (Lib.hid rfl) Rd.nil (by omega) 0 0 (Lib.hid rfl)).mono ?_
  rintro e₁ w2 ⟨rfl, rfl⟩
  go_wp2_with fail
  refine (keep_bad g _ 2 0 w1 hR (by decide)).mono ?_
  rintro e₁ w2 ⟨rfl, rfl⟩
  go_wp2_with fail
  go_ret
  exact ⟨rfl, h1, h2⟩
theorem number_long (g : Nat) (y : UInt8) (r : List UInt8) (n : Nat) (w : World) (h : RdS g (y :: r) n 0 w) (hn : n ≤ 100000) (h8 : 8 < y.toNat) :
    Calls Tryz.prog 50 #[.pointer (some ⟨g, 0, none⟩)] w fun e₁ w' => e₁ = .returned (.int .u64 0) ∧ RdS g r (n - 1) 4 w' ∧ Only g w w' := by
  have hO := Lib.hid (one_ok g y r n w h hn)
  have hy := y.toNat_lt
  generalize y.toNat = m at h8 hO hy
  have m8 : (8 : Int) < (m : Int) := by omega
  have mw : IntKind.i64.wrap (m : Int) = (m : Int) := by rw [IntKind.wrap_i64]; omega
  go_enter Tryz.func50, Tryz.ntmps50
  go_wp2_with fail
  refine hO.out.mono ?_
  rintro e₁ w1 ⟨rfl, h1, h2⟩
  obtain ⟨A, c, hR, HN, hc, hr, hA⟩ := id h1
  go_wp2_with fail
  refine (keep_ok g _ 4 w1 hR).mono ?_
  rintro e₁ w2 ⟨rfl, hR2, h3⟩
  have h4 : RdS g r (n - 1) 4 w2 := ⟨A, c, hR2, HN, hc, hr.only h3 (lt_ne hA), hA⟩
  go_wp2_with fail
  refine (next_bad g _ A c 4 (m : Int) w2 hR2 (by decide)).mono ?_
  rintro e₁ w3 ⟨rfl, rfl⟩
  go_wp2_with fail
  refine (from_at [] 0 none 0 w2 (Lib.hid rfl) Rd.nil (by omega) 0 0 (Lib.hid rfl)).mono ?_
  rintro e₁ w3 ⟨rfl, rfl⟩
  go_wp2_with fail
  refine (keep_bad g _ 4 0 w2 hR2 (by decide)).mono ?_
  rintro e₁ w3 ⟨rfl, rfl⟩
  go_wp2_with fail
  go_ret
  exact ⟨rfl, h4, h2.trans h3⟩
theorem number_short (g : Nat) (y : UInt8) (r : List UInt8) (n : Nat) (w : World) (h : RdS g (y :: r) n 0 w) (hn : n ≤ 100000) (h8 : ¬ 8 < y.toNat) (hs : n - 1 < y.toNat) :
    Calls Tryz.prog 50 #[.pointer (some ⟨g, 0, none⟩)] w fun e₁ w' => e₁ = .returned (.int .u64 0) ∧ RdS g r (n - 1) 2 w' ∧ Only g w w' := by
  have hO := Lib.hid (one_ok g y r n w h hn)
  have hy := y.toNat_lt
  generalize y.toNat = m at h8 hs hO hy
  have m8 : ¬ (8 : Int) < (m : Int) := by omega
  have mw : IntKind.i64.wrap (m : Int) = (m : Int) := by rw [IntKind.wrap_i64]; omega
  go_enter Tryz.func50, Tryz.ntmps50
  go_wp2_with fail
  refine hO.out.mono ?_
  rintro e₁ w1 ⟨rfl, h1, h2⟩
  go_wp2_with fail
  refine (next_short g r (n - 1) m w1 h1 hs).mono ?_
  rintro e₁ w2 ⟨rfl, h4, h3⟩
  obtain ⟨A, c, hR2, _⟩ := id h4
  go_wp2_with fail
  refine (from_at [] 0 none 0 w2 (Lib.hid rfl) Rd.nil (by omega) 0 0 (Lib.hid rfl)).mono ?_
  rintro e₁ w3 ⟨rfl, rfl⟩
  go_wp2_with fail
  refine (keep_bad g _ 2 0 w2 hR2 (by decide)).mono ?_
  rintro e₁ w3 ⟨rfl, rfl⟩
  go_wp2_with fail
  go_ret
  exact ⟨rfl, h4, h2.trans h3⟩
theorem number_ok (g : Nat) (y : UInt8) (r : List UInt8) (n : Nat) (w : World) (h : RdS g (y :: r) n 0 w) (hn : n ≤ 100000) (h8 : ¬ 8 < y.toNat) (hs : ¬ n - 1 < y.toNat) (v : Nat) (k : Int) (HF : Hid (fromR (r.take y.toNat) = (v, k))) :
    Calls Tryz.prog 50 #[.pointer (some ⟨g, 0, none⟩)] w fun e₁ w' => e₁ = .returned (.int .u64 (v : Int)) ∧ RdS g (r.drop y.toNat) (n - 1 - y.toNat) k w' ∧ Only g w w' := by
  have hO := Lib.hid (one_ok g y r n w h hn)
  have hrl : r.length = n - 1 := by
    obtain ⟨_, _, _, HN, _⟩ := h
    have := HN.out
    rw [List.length_cons] at this
    omega
  have hy := y.toNat_lt
  generalize y.toNat = m at h8 hs hO hy HF ⊢
  have m8 : ¬ (8 : Int) < (m : Int) := by omega
  have mw : IntKind.i64.wrap (m : Int) = (m : Int) := by rw [IntKind.wrap_i64]; omega
  have HL : Hid ((r.take m).length = m) := by unfold Hid; rw [List.length_take]; omega
  clear hrl
  go_enter Tryz.func50, Tryz.ntmps50
  go_wp2_with fail
  refine hO.out.mono ?_
  rintro e₁ w1 ⟨rfl, h1, h2⟩
  go_wp2_with fail
  refine (next_ok g r (n - 1) m w1 h1 (by omega) (by omega)).mono ?_
  rintro e₁ w2 ⟨A2, c2, rfl, hr2, h4, h3⟩
  obtain ⟨A, c, hR2, HN, hc, hr, hA⟩ := id h4
  go_wp2_with fail
  refine (from_at (r.take m) m A2 c2 w2 HL hr2 (by omega) v k HF).mono ?_
  rintro e₁ w3 ⟨rfl, rfl⟩
  go_wp2_with fail
  refine (keep_ok g _ k w2 hR2).mono ?_
  rintro e₁ w3 ⟨rfl, hR3, h5⟩
  have h6 : RdS g (r.drop m) (n - 1 - m) k w3 := ⟨A, c, hR3, HN, hc, hr.only h5 (lt_ne hA), hA⟩
  go_wp2_with fail
  go_ret
  exact ⟨rfl, h6, (h2.trans h3).trans h5⟩
theorem number_any (g : Nat) (k : Int) (S : List UInt8) (w : World) (h : RdT g k S w) :
    Calls Tryz.prog 50 #[.pointer (some ⟨g, 0, none⟩)] w fun e₁ w' => e₁ = .returned (.int .u64 ((nK k S).2.1 : Int)) ∧ RdT g (nK k S).1 (nK k S).2.2 w' ∧ Only g w w' := by
  obtain ⟨S', n, h1, hn, h2⟩ := h
  unfold nK
  by_cases hk : k = 0
  · rw [if_pos hk]
    have e := h2 hk
    subst e hk
    cases S' with
    | nil =>
      have en : n = 0 := by
        obtain ⟨_, _, _, HN, _⟩ := h1
        exact HN.out.symm
      subst en
      refine (number_empty g w h1).mono ?_
      rintro e₁ w' ⟨rfl, h3, h4⟩
      exact ⟨rfl, ⟨[], 0, h3, by omega, fun h => absurd h (by decide)⟩, h4⟩
    | cons y r =>
      have hrl : r.length = n - 1 := by
        obtain ⟨_, _, _, HN, _⟩ := h1
        have := HN.out
        rw [List.length_cons] at this
        omega
      rw [readN_cons]
      by_cases h8 : 8 < y.toNat
      · rw [if_pos h8]
        refine (number_long g y r n w h1 hn h8).mono ?_
        rintro e₁ w' ⟨rfl, h3, h4⟩
        exact ⟨rfl, ⟨r, n - 1, h3, by omega, fun h => absurd h (by decide)⟩, h4⟩
      · rw [if_neg h8]
        by_cases hs : r.length < y.toNat
        · rw [if_pos hs]
          refine (number_short g y r n w h1 hn h8 (by omega)).mono ?_
          rintro e₁ w' ⟨rfl, h3, h4⟩
          exact ⟨rfl, ⟨r, n - 1, h3, by omega, fun h => absurd h (by decide)⟩, h4⟩
        · rw [if_neg hs]
          have hl8 : ¬ 8 < (r.take y.toNat).length := by rw [List.length_take]; omega
          by_cases h0 : 0 < y.toNat ∧ r.head? = some 0
          · rw [if_pos h0]
            have hf : fromR (r.take y.toNat) = (0, 3) := by
              unfold fromR
              rw [if_neg hl8, if_pos (by rw [List.head?_take, if_neg (by omega)]; exact h0.2)]
            refine (number_ok g y r n w h1 hn h8 (by omega) 0 3 hf).mono ?_
            rintro e₁ w' ⟨rfl, h3, h4⟩
            exact ⟨rfl, ⟨_, _, h3, by omega, fun h => absurd h (by decide)⟩, h4⟩
          · rw [if_neg h0]
            have hf : fromR (r.take y.toNat) = (valN (r.take y.toNat), 0) := by
              unfold fromR
              rw [if_neg hl8, if_neg]
              intro hh
              rcases Nat.eq_zero_or_pos y.toNat with hz | hp
              · rw [hz, List.take_zero] at hh
                simp at hh
              · rw [List.head?_take, if_neg (by omega)] at hh
                exact h0 ⟨hp, hh⟩
            refine (number_ok g y r n w h1 hn h8 (by omega) _ 0 hf).mono ?_
            rintro e₁ w' ⟨rfl, h3, h4⟩
            exact ⟨rfl, ⟨_, _, h3, by omega, fun _ => rfl⟩, h4⟩
  · rw [if_neg hk]
    obtain ⟨A, c, hR, _⟩ := id h1
    refine (number_bad g n A c k w hR hk).mono ?_
    rintro e₁ w' ⟨rfl, rfl⟩
    exact ⟨rfl, ⟨S', n, h1, hn, fun h => absurd h hk⟩, Only.refl g w⟩

/-! ### end -/
def endK (k : Int) (S : List UInt8) : Int := if k = 0 ∧ S ≠ [] then 4 else k
theorem end_any (g : Nat) (k : Int) (S : List UInt8) (w : World) (h : RdT g k S w) :
    Calls Tryz.prog 52 #[.pointer (some ⟨g, 0, none⟩)] w fun e₁ w' => e₁ = .returned (.tuple #[]) ∧ (∃ v, Row w' g 97 [v, .int .i64 (endK k S)]) ∧ Only g w w' := by
  obtain ⟨S', n, h1, hn, h2⟩ := h
  obtain ⟨A, c, hR, HN, hc, hr, hA⟩ := h1
  have c0 : w.cell? ⟨g, 0, none⟩ = some (.slice A n c) := hR.cell rfl
  by_cases h0 : n = 0
  · have hE : endK k S = k := by
      unfold endK
      rw [if_neg]
      rintro ⟨h3, h4⟩
      rw [← h2 h3] at h4
      exact h4 (List.eq_nil_of_length_eq_zero (HN.out.trans h0))
    rw [hE]
    have i0 : ¬ (0 : Int) < (n : Int) := by omega
    clear h0
    go_enter Tryz.func52, Tryz.ntmps52
    go_wp2_with fail
    first | go_end0 | refine bodyPost_ret (results_none rfl _ _ _) rfl ?_
    exact ⟨rfl, ⟨_, hR⟩, Only.refl g w⟩
  · have i0 : (0 : Int) < (n : Int) := by omega
    by_cases hk : k = 0
    · subst hk
      have hE : endK 0 S = 4 := by
        unfold endK
        rw [if_pos]
        refine ⟨rfl, fun h4 => h0 ?_⟩
        rw [← HN.out, h2 rfl, h4]
        rfl
      rw [hE]
      clear h0
      go_enter Tryz.func52, Tryz.ntmps52
      go_wp2_with fail
      refine (keep_ok g _ 4 w hR).mono ?_
      rintro e₁ w1 ⟨rfl, hR1, h3⟩
      go_wp2_with fail
      first | go_end0 | refine bodyPost_ret (results_none rfl _ _ _) rfl ?_
      exact ⟨rfl, ⟨_, hR1⟩, h3⟩
    · have hE : endK k S = k := if_neg (fun h => hk h.1)
      rw [hE]
      clear h0
      go_enter Tryz.func52, Tryz.ntmps52
      go_wp2_with fail
      refine (keep_bad g _ k 4 w hR hk).mono ?_
      rintro e₁ w1 ⟨rfl, rfl⟩
      go_wp2_with fail
      first | go_end0 | refine bodyPost_ret (results_none rfl _ _ _) rfl ?_
      exact ⟨rfl, ⟨_, hR⟩, Only.refl g w⟩

/-! ### the Tag's bytes -/
def tagK (k : Int) (S : List UInt8) : Int × List UInt8 := if k = 0 then if S.length < 8 then (2, []) else (0, S.take 8) else (k, [])
theorem tag_any (g : Nat) (k : Int) (S : List UInt8) (w : World) (h : RdT g k S w) :
    Calls Tryz.prog 51 #[.pointer (some ⟨g, 0, none⟩), .int .i64 8] w fun e₁ w' => (∃ A n c, e₁ = .returned (.slice A n c) ∧ Hid ((tagK k S).2.length = n) ∧ n ≤ 8 ∧ Rd vB w' A (tagK k S).2) ∧ RdT g (tagK k S).1 (S.drop 8) w' ∧ Only g w w' := by
  obtain ⟨S', n, h1, hn, h2⟩ := h
  unfold tagK
  by_cases hk : k = 0
  · have e := h2 hk
    subst e hk
    rw [if_pos rfl]
    obtain ⟨A, c, hR, HN, hc, hr, hA⟩ := id h1
    by_cases h8 : n < 8
    · rw [if_pos (by rw [HN.out]; exact h8)]
      refine (next_short g S' n 8 w h1 h8).mono ?_
      rintro e₁ w1 ⟨rfl, h3, h4⟩
      exact ⟨⟨none, 0, 0, rfl, Lib.hid rfl, by omega, Rd.nil⟩, ⟨S', n, h3, hn, fun h => absurd h (by decide)⟩, h4⟩
    · rw [if_neg (by rw [HN.out]; exact h8)]
      refine (next_ok g S' n 8 w h1 (by omega) hn).mono ?_
      rintro e₁ w1 ⟨A1, c1, rfl, hr1, h3, h4⟩
      exact ⟨⟨A1, 8, c1, rfl, by unfold Hid; rw [List.length_take, HN.out]; omega, by omega, hr1⟩, ⟨_, _, h3, by omega, fun _ => rfl⟩, h4⟩
  · rw [if_neg hk]
    obtain ⟨A, c, hR, _⟩ := id h1
    refine (next_bad g n A c k 8 w hR hk).mono ?_
    rintro e₁ w' ⟨rfl, rfl⟩
    exact ⟨⟨none, 0, 0, rfl, Lib.hid rfl, by omega, Rd.nil⟩, ⟨S', n, h1, hn, fun h => absurd h hk⟩, Only.refl g w⟩

/-! ### the whole -/
theorem endK_bad {k : Int} (S : List UInt8) (h : k ≠ 0) : endK k S = k := if_neg (fun e => h e.1)
theorem nK_bad {k : Int} (S : List UInt8) (h : k ≠ 0) : nK k S = (k, 0, []) := if_neg h
theorem tagK_bad {k : Int} (S : List UInt8) (h : k ≠ 0) : tagK k S = (k, []) := if_neg h
/-- Step by step it is readF: its code; and all of it, where nothing is wrong. -/
theorem steps_read {b : List UInt8} {k0 k1 k2 k3 k4 : Int} {S0 S1 S2 S3 T : List UInt8} {t e c : Nat} (h0 : markK b = (k0, S0)) (h1 : nK k0 S0 = (k1, t, S1)) (h2 : nK k1 S1 = (k2, e, S2)) (h3 : nK k2 S2 = (k3, c, S3)) (h4 : tagK k3 S3 = (k4, T)) :
    readF b = if endK k4 (S3.drop 8) = 0 then (0, t, e, c, T) else (endK k4 (S3.drop 8), 0, 0, 0, []) := by
  have bad : ∀ {k : Int} {S : List UInt8}, k ≠ 0 → (if endK k S = 0 then ((0 : Int), t, e, c, T) else (endK k S, 0, 0, 0, [])) = (k, 0, 0, 0, []) := fun {k S} h => by rw [endK_bad S h, if_neg h]
  have b4 : k3 ≠ 0 → k4 = k3 := fun h => by rw [tagK_bad _ h] at h4; exact (congrArg Prod.fst h4).symm
  have b3 : k2 ≠ 0 → k3 = k2 := fun h => by rw [nK_bad _ h] at h3; exact (congrArg Prod.fst h3).symm
  have b2 : k1 ≠ 0 → k2 = k1 := fun h => by rw [nK_bad _ h] at h2; exact (congrArg Prod.fst h2).symm
  have b1 : k0 ≠ 0 → k1 = k0 := fun h => by rw [nK_bad _ h] at h1; exact (congrArg Prod.fst h1).symm
  by_cases z0 : k0 = 0
  · subst z0
    cases b with
    | nil => simp [markK] at h0
    | cons x r =>
      have e0 : x = 87 ∧ r = S0 := by
        unfold markK at h0
        dsimp only at h0
        split at h0
        · simp at h0
        · rename_i hx
          exact ⟨Classical.byContradiction hx, congrArg Prod.snd h0⟩
      obtain ⟨rfl, rfl⟩ := e0
      rw [readF_cons, if_neg (by simp)]
      unfold nK at h1
      rw [if_pos rfl] at h1
      unfold readB
      rw [h1]
      by_cases z1 : k1 = 0
      · subst z1
        rw [if_pos rfl]
        unfold nK at h2
        rw [if_pos rfl] at h2
        unfold readE
        dsimp only
        rw [h2]
        by_cases z2 : k2 = 0
        · subst z2
          rw [if_pos rfl]
          unfold nK at h3
          rw [if_pos rfl] at h3
          unfold readC
          dsimp only
          rw [h3]
          by_cases z3 : k3 = 0
          · subst z3
            rw [if_pos rfl]
            unfold tagK at h4
            rw [if_pos rfl] at h4
            unfold readT
            dsimp only
            by_cases h8 : S3.length < 8
            · rw [if_pos h8] at h4 ⊢
              have ek : k4 = 2 := (congrArg Prod.fst h4).symm
              rw [ek, bad (by decide)]
            · rw [if_neg h8] at h4 ⊢
              have ek : k4 = 0 := (congrArg Prod.fst h4).symm
              have eT : T = S3.take 8 := (congrArg Prod.snd h4).symm
              rw [ek, eT]
              by_cases h9 : 8 < S3.length
              · rw [if_pos h9]
                have hE : endK 0 (S3.drop 8) = 4 := if_pos ⟨rfl, fun h => by have := congrArg List.length h; rw [List.length_drop, List.length_nil] at this; omega⟩
                rw [hE, if_neg (by decide)]
              · rw [if_neg h9]
                have hE : endK 0 (S3.drop 8) = 0 := if_neg (fun h => h.2 (List.drop_of_length_le (by omega)))
                rw [hE, if_pos rfl, List.take_of_length_le (by omega)]
          · rw [if_neg z3]
            rw [b4 z3, bad z3]
        · rw [if_neg z2]
          have e3 := b3 z2
          rw [b4 (by rw [e3]; exact z2), e3, bad z2]
      · rw [if_neg z1]
        have e2 := b2 z1
        have e3 := b3 (by rw [e2]; exact z1)
        rw [e2] at e3
        rw [b4 (by rw [e3]; exact z1), e3, bad z1]
  · have e1 := b1 z0
    have e2 := b2 (by rw [e1]; exact z0)
    rw [e1] at e2
    have e3 := b3 (by rw [e2]; exact z0)
    rw [e2] at e3
    rw [b4 (by rw [e3]; exact z0), e3, bad z0]
    cases b with
    | nil =>
      have e : (2 : Int) = k0 := congrArg Prod.fst h0
      rw [← e]
      rfl
    | cons x r =>
      rw [readF_cons]
      unfold markK at h0
      dsimp only at h0
      split at h0
      · rename_i hx
        rw [if_pos hx]
        have e : (3 : Int) = k0 := congrArg Prod.fst h0
        rw [← e]
      · exact absurd (congrArg Prod.fst h0).symm z0
end Go.Proofs.YtcnjackbiimjdaaGreatDoor
/-
  What the program's calls of layer 12 answer, over the landed code (rightP_any, writeP_ok, writeP_no, msgP_any: XFrameWr). No conditions but those typed.
-/
namespace Go.Proofs.YtcnjackbiimjdaaGreatDoor
set_option maxRecDepth 100000
open Go.RowKit
set_option linter.unusedSimpArgs false
set_option linter.unusedVariables false

theorem size_rd : (Tryz.prog.info? 97).map (·.size) = some 2 := by kernel_rfl
theorem one_two (a b : Value) (ha : a.oneCell' = true) (hb : b.oneCell' = true) : ∀ v ∈ [a, b], v.oneCell' = true := fun v hv => by
  simp at hv
  rcases hv with rfl | rfl <;> assumption
theorem cloneF (n : Nat) (b : List UInt8) (A : Option Addr) (c : Nat) (w : World) (HN : Hid (b.length = n)) (hr : Rd vB w A b) (hl : n ≤ 70368744177664) :
    Calls Tryz.prog 43 #[.slice A n c] w fun e w' => ∃ A' c', e = .returned (.slice A' n c') ∧ n ≤ c' ∧ Rd vB w' A' b ∧ (∀ a, A' = some a → w.heap.size ≤ a.block) ∧ Below w.heap.size w w' := by
  have e := HN.out
  subst e
  exact (clone_b b A c w hr hl).mono fun _ _ h => h
def codeP (g : Nat) (k : Int) (W : World) : Prop := W.cell? ⟨g, 1, none⟩ = some (.int .i64 k) ∧ True

set_option maxRecDepth 100000 in
set_option maxHeartbeats 4000000 in
theorem readP_any (b : List UInt8) (n : Nat) (A : Option Addr) (c : Nat) (w : World) (HN : Hid (b.length = n)) (hr : Rd vB w A b) (hc : n ≤ c) (hn : n ≤ 100000) :
    Calls Tryz.prog 21 #[.slice A n c] w (RetPay w (readF b)) := by
  obtain ⟨k0, S0, H0⟩ : ∃ k S, markK b = (k, S) := ⟨_, _, rfl⟩
  obtain ⟨k1, x1, S1, H1⟩ : ∃ k x S, nK k0 S0 = (k, x, S) := ⟨_, _, _, rfl⟩
  obtain ⟨k2, x2, S2, H2⟩ : ∃ k x S, nK k1 S1 = (k, x, S) := ⟨_, _, _, rfl⟩
  obtain ⟨k3, x3, S3, H3⟩ : ∃ k x S, nK k2 S2 = (k, x, S) := ⟨_, _, _, rfl⟩
  obtain ⟨k4, T, H4⟩ : ∃ k S, tagK k3 S3 = (k, S) := ⟨_, _, rfl⟩
  have HF := steps_read H0 H1 H2 H3 H4
  obtain ⟨k5, H5⟩ : ∃ k, endK k4 (S3.drop 8) = k := ⟨_, rfl⟩
  rw [H5] at HF
  obtain ⟨F, hF⟩ : ∃ F, readF b = F := ⟨_, rfl⟩
  rw [hF] at HF ⊢
  clear hF
  replace HF := Lib.hid HF
  replace H0 := Lib.hid H0
  replace H1 := Lib.hid H1
  replace H2 := Lib.hid H2
  replace H3 := Lib.hid H3
  replace H4 := Lib.hid H4
  replace H5 := Lib.hid H5
  obtain ⟨hR0, hB0⟩ := box_pay w 25 (.int .u64 0) (.int .u64 0) (.int .u64 0) (.slice none 0 0)
  go_enter Tryz.func21, Tryz.ntmps21
  go_upto_region 1 with fail
  generalize (w.alloc (.cells #[.int .u64 0, .int .u64 0, .int .u64 0, .slice none 0 0] 25)) = W0 at hR0 hB0 ⊢
  have hgl := hR0.lt
  have hRr : Row (W0.alloc (.cells #[.slice none 0 0, .int .i64 0] 97)) W0.heap.size 97 [.slice none 0 0, .int .i64 0] := Row.new W0 _ _ _ rfl
  go_upto_region 2 with (refine wpList_store_row rfl 97 (.tmp 4) (.tmp 7) rfl W0.heap.size rfl [.slice A n c, .int .i64 0] rfl _ _ hRr (by exact size_rd) rfl (one_two _ _ rfl rfl) ?_)
  have hRs := hRr.setRow [.slice A n c, .int .i64 0]
  have hb2 : Below W0.heap.size W0 ((W0.alloc (.cells #[.slice none 0 0, .int .i64 0] 97)).setRow W0.heap.size [.slice A n c, .int .i64 0].toArray) := below_setRow (below_new (Below.refl _ _) _) (Nat.le_refl _) _
  replace hr := (hr.keep hB0)
  have hA : b ≠ [] → ∀ a, A = some a → a.block < W0.heap.size := hr.off
  replace hr := hr.keep hb2
  replace hR0 := hR0.later hb2
  replace hB0 := below_step hB0 hb2
  generalize (W0.alloc (.cells #[.slice none 0 0, .int .i64 0] 97)).setRow W0.heap.size [.slice A n c, .int .i64 0].toArray = W1 at hr hR0 hRs hB0 ⊢
  clear hRr hb2
  generalize W0.heap.size = g1 at hgl hRs hA ⊢
  have hS : RdS g1 b n 0 W1 := ⟨A, c, hRs, HN, hc, hr, hA⟩
  clear hRs hr hA
  have hle : w.heap.size ≤ g1 := by omega
  have hne : w.heap.size ≠ g1 := by omega
  go_wp2_with fail
  refine (mark_any g1 b n W1 hS hn).mono ?_
  rw [H0.out]
  rintro e₁ w2 ⟨rfl, hT, hO⟩
  dsimp only at hT
  replace hR0 := hR0.only hO hne
  replace hB0 := hB0.trans (hO.below.mono hle)
  clear hO hS
  have hg1 := hT.lt
  have hRq : Row (w2.alloc (.cells #[.int .u64 0, .int .u64 0, .int .u64 0, .slice none 0 0] 25)) w2.heap.size 25 [.int .u64 0, .int .u64 0, .int .u64 0, .slice none 0 0] := Row.new w2 _ _ _ rfl
  have hbn := below_new (Below.refl w2.heap.size w2) (.cells #[.int .u64 0, .int .u64 0, .int .u64 0, .slice none 0 0] 25)
  replace hT := hT.below (hbn.mono (by omega))
  replace hR0 := hR0.later hbn
  replace hB0 := below_step hB0 hbn
  go_upto_region 4 with fail
  generalize w2.alloc (.cells #[.int .u64 0, .int .u64 0, .int .u64 0, .slice none 0 0] 25) = W3 at hT hR0 hB0 hRq ⊢
  clear hbn
  generalize w2.heap.size = g2 at hg1 hRq ⊢
  have hn2 : g2 ≠ g1 := by omega
  have hn3 : g2 ≠ w.heap.size := by omega
  have hn4 : w.heap.size ≠ g2 := by omega
  have hl2 : w.heap.size ≤ g2 := by omega
  go_wp2_with fail
  refine (number_any g1 k0 S0 W3 hT).mono ?_
  rw [H1.out]
  rintro e₁ w4 ⟨rfl, hT4, hO⟩
  dsimp only at hT4 ⊢
  replace hR0 := hR0.only hO hne
  replace hRq := hRq.only hO hn2
  replace hB0 := hB0.trans (hO.below.mono hle)
  clear hO hT
  have f0 := hRq.frozen 0
  have hT5 := hT4.below ((Below.refl _ w4).setCell (p := ⟨g2, 0, none⟩) (show g1 + 1 ≤ g2 by omega) (.int .u64 (x1 : Int)))
  have hR5 := hR0.setCell_other (p := ⟨g2, 0, none⟩) hn4 (.int .u64 (x1 : Int))
  have hRq5 := hRq.setCell 0 (.int .u64 (x1 : Int))
  have hB5 := hB0.setCell (p := ⟨g2, 0, none⟩) hl2 (.int .u64 (x1 : Int))
  have c0 : w4.cell? ⟨g2, 0, none⟩ = some (.int .u64 0) := hRq.cell rfl
  clear hT4 hR0 hRq hB0
  have hQ5 : Row (w4.setCell ⟨g2, 0, none⟩ (.int .u64 (x1 : Int))) g2 25 [.int .u64 (x1 : Int), .int .u64 0, .int .u64 0, .slice none 0 0] := hRq5
  go_upto_region 5 with fail
  generalize w4.setCell ⟨g2, 0, none⟩ (.int .u64 (x1 : Int)) = W5 at hT5 hR5 hQ5 hB5 ⊢
  clear hRq5 c0 f0
  go_wp2_with fail
  refine (number_any g1 k1 S1 W5 hT5).mono ?_
  rw [H2.out]
  rintro e₁ w6 ⟨rfl, hT6, hO⟩
  dsimp only at hT6 ⊢
  have hR6 := hR5.only hO hne
  have hQ6 := hQ5.only hO hn2
  have hB6 := hB5.trans (hO.below.mono hle)
  clear hO hT5 hR5 hQ5 hB5
  have f0 := hQ6.frozen 1
  have hT7 := hT6.below ((Below.refl _ w6).setCell (p := ⟨g2, 1, none⟩) (show g1 + 1 ≤ g2 by omega) (.int .u64 (x2 : Int)))
  have hR7 := hR6.setCell_other (p := ⟨g2, 1, none⟩) hn4 (.int .u64 (x2 : Int))
  have hQ7 : Row (w6.setCell ⟨g2, 1, none⟩ (.int .u64 (x2 : Int))) g2 25 [.int .u64 (x1 : Int), .int .u64 (x2 : Int), .int .u64 0, .slice none 0 0] := hQ6.setCell 1 (.int .u64 (x2 : Int))
  have hB7 := hB6.setCell (p := ⟨g2, 1, none⟩) hl2 (.int .u64 (x2 : Int))
  have c0 : w6.cell? ⟨g2, 1, none⟩ = some (.int .u64 0) := hQ6.cell rfl
  clear hT6 hR6 hQ6 hB6
  go_upto_region 6 with fail
  generalize w6.setCell ⟨g2, 1, none⟩ (.int .u64 (x2 : Int)) = W7 at hT7 hR7 hQ7 hB7 ⊢
  clear c0 f0
  go_wp2_with fail
  refine (number_any g1 k2 S2 W7 hT7).mono ?_
  rw [H3.out]
  rintro e₁ w8 ⟨rfl, hT8, hO⟩
  dsimp only at hT8 ⊢
  have hR8 := hR7.only hO hne
  have hQ8 := hQ7.only hO hn2
  have hB8 := hB7.trans (hO.below.mono hle)
  clear hO hT7 hR7 hQ7 hB7
  have f0 := hQ8.frozen 2
  have hT9 := hT8.below ((Below.refl _ w8).setCell (p := ⟨g2, 2, none⟩) (show g1 + 1 ≤ g2 by omega) (.int .u64 (x3 : Int)))
  have hR9 := hR8.setCell_other (p := ⟨g2, 2, none⟩) hn4 (.int .u64 (x3 : Int))
  have hQ9 : Row (w8.setCell ⟨g2, 2, none⟩ (.int .u64 (x3 : Int))) g2 25 [.int .u64 (x1 : Int), .int .u64 (x2 : Int), .int .u64 (x3 : Int), .slice none 0 0] := hQ8.setCell 2 (.int .u64 (x3 : Int))
  have hB9 := hB8.setCell (p := ⟨g2, 2, none⟩) hl2 (.int .u64 (x3 : Int))
  have c0 : w8.cell? ⟨g2, 2, none⟩ = some (.int .u64 0) := hQ8.cell rfl
  clear hT8 hR8 hQ8 hB8
  go_upto_region 7 with fail
  generalize w8.setCell ⟨g2, 2, none⟩ (.int .u64 (x3 : Int)) = W9 at hT9 hR9 hQ9 hB9 ⊢
  clear c0 f0
  go_wp2_with fail
  refine (tag_any g1 k3 S3 W9 hT9).mono ?_
  rw [H4.out]
  rintro e₁ w10 ⟨⟨A10, n10, c10, rfl, HN10, hn10, hr10⟩, hT10, hO⟩
  dsimp only at hT10 HN10 hr10 ⊢
  have hR10 := hR9.only hO hne
  have hQ10 := hQ9.only hO hn2
  have hB10 := hB9.trans (hO.below.mono hle)
  have hg10 := hQ10.lt
  clear hO hT9 hR9 hQ9 hB9
  go_wp2_with fail
  refine (cloneF n10 T A10 c10 w10 HN10 hr10 (by omega)).mono ?_
  rintro e₁ w11 ⟨A11, c11, rfl, hc11, hr11, hA11, hb⟩
  have hT11 := hT10.below (hb.mono (by omega))
  have hR11 := hR10.later hb
  have hQ11 := hQ10.later hb
  have hB11 := below_step hB10 hb
  have HA11 : Hid (∀ a, A11 = some a → g2 < a.block) := fun a ha => Nat.lt_of_lt_of_le hg10 (hA11 a ha)
  clear hb hT10 hR10 hQ10 hB10 hr10 hA11
  have f0 := hQ11.frozen 3
  have hT12 := hT11.below ((Below.refl _ w11).setCell (p := ⟨g2, 3, none⟩) (show g1 + 1 ≤ g2 by omega) (.slice A11 n10 c11))
  have hR12 := hR11.setCell_other (p := ⟨g2, 3, none⟩) hn4 (.slice A11 n10 c11)
  have hQ12 : Row (w11.setCell ⟨g2, 3, none⟩ (.slice A11 n10 c11)) g2 25 [.int .u64 (x1 : Int), .int .u64 (x2 : Int), .int .u64 (x3 : Int), .slice A11 n10 c11] := hQ11.setCell 3 (.slice A11 n10 c11)
  have hB12 := hB11.setCell (p := ⟨g2, 3, none⟩) hl2 (.slice A11 n10 c11)
  have hr12 := hr11.only ((Only.refl g2 w11).setCell 3 (.slice A11 n10 c11)) (fun _ a ha => by have := HA11.out a ha; omega)
  have c0 : w11.cell? ⟨g2, 3, none⟩ = some (.slice none 0 0) := hQ11.cell rfl
  clear hT11 hR11 hQ11 hB11 hr11
  go_upto_region 8 with fail
  generalize w11.setCell ⟨g2, 3, none⟩ (.slice A11 n10 c11) = W12 at hT12 hR12 hQ12 hB12 hr12 ⊢
  clear c0 f0
  go_wp2_with fail
  refine (end_any g1 k4 (S3.drop 8) W12 hT12).mono ?_
  rw [H5.out]
  rintro e₁ w13 ⟨rfl, ⟨v13, hRd⟩, hO⟩
  have hR13 := hR12.only hO hne
  have hQ13 := hQ12.only hO hn2
  have hB13 := hB12.trans (hO.below.mono hle)
  have hr13 := hr12.only hO (fun _ a ha => by have := HA11.out a ha; omega)
  have cd : w13.cell? ⟨g1, 1, none⟩ = some (.int .i64 k5) := hRd.cell rfl
  clear hO hT12 hR12 hQ12 hB12 hr12
  go_upto_region 9 with fail
  by_cases h5 : k5 = 0
  · subst h5
    have eF : (0, x1, x2, x3, T) = F := by rw [HF.out, if_pos rfl]
    subst eF
    go_wp2_with (first
      | (refine wpList_load_part rfl 25 (.tmp 5) rfl g2 0 rfl _ _ hQ13 [.int .u64 (x1 : Int), .int .u64 (x2 : Int), .int .u64 (x3 : Int), .slice A11 n10 c11] (by rfl) _ Tryz.underlying25 rfl (by exact size_pay') ?_)
      | (refine wpList_store_row rfl 25 (.tmp 2) (.tmp 25) rfl w.heap.size rfl [.int .u64 (x1 : Int), .int .u64 (x2 : Int), .int .u64 (x3 : Int), .slice A11 n10 c11] rfl _ _ hR13 (by exact size_pay') rfl (one_four _ _ _ _ rfl rfl rfl rfl) ?_))
    refine bodyPost_ret (results_row_tmp (p := 2) (u := 3) (ty := 25) (by rfl) _ _ w.heap.size 25 _ _ (by rfl) (by exact hR13.setRow _) Tryz.underlying25 (by rfl) (by exact size_pay')) (by rfl) ?_
    exact ⟨A11, n10, c11, rfl, HN10, hc11, hr13.setRow _ (fun a ha => by have := HA11.out a ha; omega), below_setRow hB13 (Nat.le_refl _) _⟩
  · have h50 : (k5 == 0) = false := beq_eq_false_iff_ne.2 h5
    have h51 : (k5 != 0) = true := by rw [bne, h50]; rfl
    have eF : (k5, 0, 0, 0, []) = F := by rw [HF.out, if_neg h5]
    subst eF
    go_upto_region 10 with fail
    have hS : codeP g1 k5 w13.drew := ⟨cd, trivial⟩
    have hR14 := hR13.drew
    have hB14 := hB13.drew
    refine wp_region_plan_of (codeP g1 k5) (.step 0 false (.step 1 false (.step 2 false (.step 3 true (.step 4 false (.nil)))))) hS (by kernel_rfl) (by kernel_rfl) (by rfl) (by kernel_rfl) ?_
    clear hR13 hB13 cd hQ13 hr13 hRd
    generalize w13.drew = wv at *
    iterate 3 (refine plan_read rfl (by rfl) (v := ?_) ?_ ?_; rotate_left 1; (intro W hW; (try dsimp only at hW); obtain ⟨hW0, hW1⟩ := hW; go_simp <;> with_reducible rfl); simp only [List.getElem_toArray, List.getElem_cons_zero, List.getElem_cons_succ, Act.put, List.setIfInBounds_toArray, List.set_cons_zero, List.set_cons_succ])
    have hcs : ∀ (cs : Array Value), (wv.setRow w.heap.size cs).cell? ⟨g1, 1, none⟩ = wv.cell? ⟨g1, 1, none⟩ := fun cs => cell_setRow_other wv w.heap.size cs ⟨g1, 1, none⟩ (show g1 ≠ w.heap.size by omega)
    refine plan_make_of rfl (by rfl) (fun K hK => ?_)
    refine hR14.wp_store 25 (.tmp 2) (.tmp 22) rfl rfl [.int .u64 0, .int .u64 0, .int .u64 0, .slice none 0 0] rfl (by exact size_pay') rfl (one_four _ _ _ _ rfl rfl rfl rfl) ?_
    refine hK.out _ _ ⟨(hcs _).trans hS.1, trivial⟩ ?_
    clear hK K hcs
    simp only [List.getElem_toArray, List.getElem_cons_zero, List.getElem_cons_succ, Act.put, List.setIfInBounds_toArray, List.set_cons_zero, List.set_cons_succ]
    iterate 1 (refine plan_read rfl (by rfl) (v := ?_) ?_ ?_; rotate_left 1; (intro W hW; (try dsimp only at hW); obtain ⟨hW0, hW1⟩ := hW; go_simp <;> with_reducible rfl); simp only [List.getElem_toArray, List.getElem_cons_zero, List.getElem_cons_succ, Act.put, List.setIfInBounds_toArray, List.set_cons_zero, List.set_cons_succ])
    refine plan_done ?_
    go_wp2_with fail
    refine bodyPost_ret (results_row_tmp (p := 2) (u := 3) (ty := 25) (by rfl) _ _ w.heap.size 25 _ _ (by rfl) (by exact hR14.setRow _) Tryz.underlying25 (by rfl) (by exact size_pay')) (by rfl) ?_
    exact ⟨none, 0, 0, rfl, Lib.hid rfl, Nat.le_refl _, Rd.nil, below_setRow hB14 (Nat.le_refl _) _⟩
end Go.Proofs.YtcnjackbiimjdaaGreatDoor
/-
  What the reference's calls Bits and value of layer 11 answer. No conditions but those typed.
-/
namespace Go.Proofs.YtcnjackbiimjdaaGreatDoor
set_option maxRecDepth 100000
open Go.RowKit
set_option linter.unusedSimpArgs false
set_option linter.unusedVariables false

/-- A call that hands back a list of bytes. -/
def RetY (w : World) (l : List UInt8) (e : Ending) (w' : World) : Prop := ∃ A n c, e = .returned (.slice A n c) ∧ Hid (l.length = n) ∧ n ≤ c ∧ Rd vB w' A l ∧ Below w.heap.size w w'
theorem RetY.own {w w' : World} {l : List UInt8} {base : Nat} {e : TypeId} {v : Value} {n : Nat} (hn : l.length = n) (h : w'.ownsRow base e 1 v n (l.map vB)) (hb : Below w.heap.size w w') : RetY w l (.returned v) w' := by
  subst hn
  obtain ⟨A, c, rfl, hc, hr⟩ := own_slice h
  exact ⟨A, l.length, c, rfl, rfl, hc, hr, hb⟩
def oneL (l : List Bool) : List UInt8 := l.map oneB
theorem one_append (a b : List Bool) : oneL (a ++ b) = oneL a ++ oneL b := List.map_append
theorem one_length (a : List Bool) : (oneL a).length = a.length := List.length_map _

/-! ### Bits -/
theorem bit_table : ∀ j, j < 8 → ∀ c, c < 256 → c / (128 / 2 ^ j) % 2 = (oneB ((bits8 (UInt8.ofNat c)).getD j false)).toNat := by decide +kernel
theorem bit_div (c : UInt8) (j : Nat) (hj : j < 8) : c.toNat / (128 / 2 ^ j) % 2 = (oneB ((bits8 c).getD j false)).toNat := by
  have := bit_table j hj c.toNat c.toNat_lt
  rwa [UInt8.ofNat_toNat] at this
theorem bits_take (c : UInt8) (j : Nat) (hj : j < 8) : (bits8 c).take (j + 1) = (bits8 c).take j ++ [(bits8 c).getD j false] := by
  have hl : j < (bits8 c).length := hj
  rw [List.take_succ_eq_append_getElem hl]
  congr 2
  rw [List.getD_eq_getElem?_getD, List.getElem?_eq_getElem hl]
  rfl
theorem bits_snoc (b : List UInt8) (k : Nat) (h : k < b.length) : bitsL (b.take (k + 1)) = bitsL (b.take k) ++ bits8 b[k] := by
  unfold bitsL
  rw [List.take_succ_eq_append_getElem h, List.flatMap_append]
  simp
def BitR (b : List UInt8) (w : World) (v i : Value) (wr : World) : Prop :=
  ∃ k : Nat, k ≤ b.length ∧ i = .int .i64 (k : Int) ∧ wr.ownsRow w.heap.size 5 1 v (8 * k) ((oneL (bitsL (b.take k))).map vB) ∧ Below w.heap.size w wr
def BitI (P : List Bool) (c : UInt8) (q : Nat) (w : World) (v n : Value) (wr : World) : Prop :=
  ∃ j : Nat, j ≤ 8 ∧ n = .int .i64 ((128 / 2 ^ j : Nat) : Int) ∧ wr.ownsRow w.heap.size 5 1 v (q + j) ((oneL (P ++ (bits8 c).take j)).map vB) ∧ Below w.heap.size w wr
theorem half_table : ∀ j, j < 8 → 128 / 2 ^ j / 2 = 128 / 2 ^ (j + 1) ∧ 0 < 128 / 2 ^ j ∧ 128 / 2 ^ j ≤ 128 := by decide +kernel

set_option maxHeartbeats 2000000 in
theorem refbits_any (b : List UInt8) (n : Nat) (A : Option Addr) (c : Nat) (w : World) (HN : Hid (b.length = n)) (hr : Rd vB w A b) (hn : n ≤ 1000000) :
    Calls Tryz.prog 38 #[.slice A n c] w (RetY w (oneL (bitsL b))) := by
  obtain ⟨i0, hi, hz0, hz1, hz2⟩ := info_parts info_u8
  have e1 := HN.out
  subst e1
  go_enter Tryz.func38, Tryz.ntmps38
  go_wp2_with fail
  go_loopw [3, 4] (fun v i wr => BitR b w v i wr) (fun _ i _ => b.length - (intOf i).toNat)
  case atStart => exact ⟨0, Nat.zero_le _, rfl, World.ownsRow_nil _ _ _ _, Below.refl _ _⟩
  case round =>
    obtain ⟨k, hk, rfl, hown, hbel⟩ := hrel
    by_cases h : k < b.length
    · obtain ⟨g, o, rfl, hg, hcell⟩ := hr.at h
      have hc0 : ∀ W, Below w.heap.size w W → W.cell? ⟨g, o + k, none⟩ = some (.int .u8 (b[k].toNat : Int)) := fun W hW => (hW.cell (p := ⟨g, o + k, none⟩) hg).trans (hcell k h)
      have HC0 := Lib.hid hc0
      have HSN := Lib.hid (bits_snoc b k h)
      generalize b[k] = y at HC0 HSN
      have k1 : (k : Int) < (b.length : Int) := by omega
      have k0 : (0 : Int) ≤ (k : Int) := by omega
      generalize hP : bitsL (b.take k) = P at HSN hown
      have HP := Lib.hid hP
      clear hcell hc0 hP
      go_wp2_with fail
      go_loopw [3, 5] (fun v n wx => BitI P y (8 * k) w v n wx) (fun _ n _ => (intOf n).toNat)
      case atStart => exact ⟨0, by omega, rfl, by rw [List.take_zero, List.append_nil]; exact hown, hbel⟩
      case round =>
        clear hown hbel
        obtain ⟨j, hj, rfl, hown, hbel⟩ := hrel
        by_cases hj8 : j < 8
        · obtain ⟨t1, t2, t3⟩ := half_table j hj8
          have hbd := bit_div y j hj8
          have HBT := Lib.hid (bits_take y j hj8)
          have hyl := y.toNat_lt
          have hc1 := HC0.out wr hbel
          have HT1 := Lib.hid t1
          clear t1
          generalize 128 / 2 ^ j = m at t2 t3 hbd HT1 ⊢
          generalize (bits8 y).getD j false = x at hbd HBT
          have ho : (oneB x).toNat < 2 := by cases x <;> decide
          obtain ⟨ox, hox⟩ : ∃ ox, oneB x = ox := ⟨_, rfl⟩
          have HOX := Lib.hid hox
          rw [hox] at hbd ho
          clear hox
          obtain ⟨r, hr⟩ : ∃ r, ox.toNat = r := ⟨_, rfl⟩
          have HRX := Lib.hid hr
          rw [hr] at hbd ho
          clear hr
          have m0 : (0 : Int) < (m : Int) := by omega
          have m3 : ((m : Int) == 0) = false := beq_eq_false_iff_ne.2 (by omega)
          have m4 : IntKind.i64.wrap (y.toNat : Int) = (y.toNat : Int) := by rw [IntKind.wrap_i64]; omega
          have m5 : IntKind.u8.wrap (r : Int) = (r : Int) := by rw [IntKind.wrap_u8']; omega
          have m7 : (r : Int) % 256 = (r : Int) := by omega
          have hle := hbel.size
          obtain ⟨z, hz⟩ : ∃ z, z = y.toNat / m := ⟨_, rfl⟩
          rw [← hz] at hbd
          have hzl : z ≤ 255 := by have := Nat.div_le_self y.toNat m; omega
          have md : True → (y.toNat : Int) / (m : Int) = (z : Int) := fun _ => by rw [hz, Int.natCast_ediv]
          have m1 : True → (z : Int) % 2 = (r : Int) := fun _ => by rw [← hbd]; rfl
          have m2 : True → (z : Int).tmod 2 = (r : Int) := fun _ => (Int.tmod_eq_emod_of_nonneg (Int.natCast_nonneg z)).trans (m1 trivial)
          clear hbd hz
          go_wp2_with (at_builtin; refine wpList_append_own _ rfl _ _ 23 rfl w.heap.size 5 i0 (.int .u8 0) 1 1 Tryz.underlying23 hi hz0 hz1 hz2 rfl (by decide) _ _ _ rfl (hown.alloc _) ⟨wr.heap.size, 0, none⟩ 1 1 [.int .u8 (r : Int)] rfl rfl (cell_one_new _ _ _) (by intro u hu; simp at hu; subst hu; rfl) (by unfold maxLen; omega) (by omega) (by simp; omega) ?_; intro v' w1 hown' hgrow' _)
          have hB1 : Below w.heap.size w w1 := (hbel.alloc hbel.size _).grown hgrow' (by simp; omega) (fun g hk => (hown.lt g hk).1)
          have hon : w1.ownsRow w.heap.size 5 1 v' (8 * k + (j + 1)) ((oneL (P ++ (bits8 y).take (j + 1))).map vB) := by
            rw [HBT.out, ← List.append_assoc, one_append, List.map_append]
            have e : (oneL [x]).map vB = [.int .u8 (r : Int)] := by rw [← HRX.out, ← HOX.out]; rfl
            rw [e]
            exact hown'
          have HR : Hid (BitI P y (8 * k) w v' (.int .i64 ((m / 2 : Nat) : Int)) w1) := ⟨j + 1, by omega, by rw [HT1.out], hon, hB1⟩
          obtain ⟨hf, hhf⟩ : ∃ hf, hf = m / 2 := ⟨_, rfl⟩
          rw [← hhf] at HR
          clear hown' hgrow' hown hbel hB1 hon md m1 m2 m5 m7 m3 m4
          have d1 : (m : Int).tdiv 2 = (hf : Int) := by rw [Int.tdiv_eq_ediv_of_nonneg (by omega)]; omega
          have d2 : IntKind.i64.wrap (hf : Int) = (hf : Int) := by rw [IntKind.wrap_i64]; omega
          have d3 : (m : Int) / 2 = (hf : Int) := by omega
          have d4 : hf < m := by omega
          clear hhf
          go_wp2_with fail
          go_roundw
          case rel => rw [d3]; exact HR.out
          case measure => simp [intOf] <;> omega
        · have ej : j = 8 := by omega
          subst ej
          have e0 : ((128 / 2 ^ 8 : Nat) : Int) = 0 := by decide
          rw [e0]
          have HR : Hid (BitR b w u3 (.int .i64 ((k : Int) + 1)) wr) := ⟨k + 1, h, by go_num, by rw [HSN.out]; exact hown, hbel⟩
          clear hown hbel
          go_wp2_with fail
          go_roundw
          case rel => exact HR.out
          case measure => simp [intOf] <;> omega
    · have ek : k = b.length := by omega
      subst ek
      have k1 : ¬ (b.length : Int) < (b.length : Int) := by omega
      rw [List.take_length] at hown
      go_wp2_with fail
      go_ret
      exact RetY.own (by rw [one_length, bits_length]) hown hbel
end Go.Proofs.YtcnjackbiimjdaaGreatDoor
/-
  What the reference's calls value and Put of layer 11 answer. No conditions but those typed.
-/
namespace Go.Proofs.YtcnjackbiimjdaaGreatDoor
set_option maxRecDepth 100000
open Go.RowKit
set_option linter.unusedSimpArgs false
set_option linter.unusedVariables false

def valT (l : List Bool) : UInt8 := l.foldl (fun v x => 2 * v + oneB x) 0
theorem valT_snoc (l : List Bool) (x : Bool) : valT (l ++ [x]) = 2 * valT l + oneB x := by unfold valT; rw [List.foldl_append]; rfl
theorem u8_two (v x : UInt8) : ((2 * v + x).toNat : Int) = (2 * (v.toNat : Int) % 256 + (x.toNat : Int)) % 256 := by
  rw [UInt8.toNat_add, UInt8.toNat_mul]
  have : (2 : UInt8).toNat = 2 := rfl
  rw [this]
  omega
def ValSt (l : List Bool) (w : World) (v i : Value) (wr : World) : Prop :=
  ∃ j : Nat, j ≤ 8 ∧ i = .int .i64 (j : Int) ∧ v = .int .u8 ((valT (l.take j)).toNat : Int) ∧ w = wr
theorem refvalue_any (l : List Bool) (A : Option Addr) (c : Nat) (w : World) (hl : l.length = 8) (hr : Rd vB w A (oneL l)) :
    Calls Tryz.prog 39 #[.slice A 8 c] w fun e w' => e = .returned (.int .u8 ((val8 l).toNat : Int)) ∧ w = w' := by
  go_enter Tryz.func39, Tryz.ntmps39
  go_wp2_with fail
  go_loopw [3, 4] (fun v i wr => ValSt l w v i wr) (fun _ i _ => 8 - (intOf i).toNat)
  case atStart => exact ⟨0, by omega, rfl, rfl, rfl⟩
  case round =>
    obtain ⟨j, hj, rfl, rfl, rfl⟩ := hrel
    by_cases h : j < 8
    · have hjl : j < l.length := by omega
      have hjo : j < (oneL l).length := by rw [one_length]; exact hjl
      obtain ⟨g, o, rfl, hg, hcell⟩ := hr.at hjo
      have hc0 := hcell j hjo
      have e : (oneL l)[j] = oneB l[j] := by simp [oneL]
      rw [e] at hc0
      unfold vB at hc0
      have HE : Hid (valT (l.take (j + 1)) = 2 * valT (l.take j) + oneB l[j]) := by
        unfold Hid
        rw [List.take_succ_eq_append_getElem hjl, valT_snoc]
      generalize oneB l[j] = x at hc0 HE
      have hu := u8_two (valT (l.take j)) x
      generalize valT (l.take j) = v at HE hu ⊢
      have j1 : (j : Int) < 8 := by omega
      have j0 : (0 : Int) ≤ (j : Int) := by omega
      have HR : Hid (ValSt l w (.int .u8 (((2 * v + x).toNat : Nat) : Int)) (.int .i64 ((j : Int) + 1)) w) := ⟨j + 1, h, by go_num, by rw [HE.out], rfl⟩
      generalize (2 * v + x).toNat = r at hu HR
      have hu' := hu.symm
      clear hcell e hu
      go_wp2_with fail
      go_roundw
      case rel => rw [hu']; exact HR.out
      case measure => simp [intOf] <;> omega
    · have ej : j = 8 := by omega
      subst ej
      rw [List.take_of_length_le (by omega)]
      have HV : Hid (valT l = val8 l) := rfl
      rw [HV.out]
      have j1 : ¬ (8 : Int) < 8 := by omega
      go_wp2_with fail
      go_ret
      exact ⟨rfl, rfl⟩

/-! ### Put -/
def cntT (l : List Bool) : Nat := (l.filter id).length
theorem cnt_snoc (l : List Bool) (x : Bool) : cntT (l ++ [x]) = cntT l + (oneB x).toNat := by
  unfold cntT
  rw [List.filter_append, List.length_append]
  cases x <;> rfl
theorem cnt_seven : ∀ a b c d e f g : Bool, (cntT [a, b, c, d, e, f, g] = 0 ↔ [a, b, c, d, e, f, g] = List.replicate 7 false) ∧ (cntT [a, b, c, d, e, f, g] = 7 ↔ [a, b, c, d, e, f, g] = List.replicate 7 true) ∧ cntT [a, b, c, d, e, f, g] ≤ 7 := by decide +kernel
theorem cnt_g7 (M : List Bool) : (cntT (g7 M) = 0 ↔ g7 M = List.replicate 7 false) ∧ (cntT (g7 M) = 7 ↔ g7 M = List.replicate 7 true) ∧ cntT (g7 M) ≤ 7 := cnt_seven _ _ _ _ _ _ _
theorem g7_take (M : List Bool) : ∀ j, j < 7 → (g7 M).take (j + 1) = (g7 M).take j ++ [M.getD j true]
  | 0, _ => rfl
  | 1, _ => rfl
  | 2, _ => rfl
  | 3, _ => rfl
  | 4, _ => rfl
  | 5, _ => rfl
  | 6, _ => rfl
  | j + 7, h => by omega
theorem drop_getD (L : List Bool) (p j : Nat) : (L.drop p).getD j true = L.getD (p + j) true := by
  rw [List.getD_eq_getElem?_getD, List.getD_eq_getElem?_getD, List.getElem?_drop]
theorem getD_lt (L : List Bool) (i : Nat) (h : i < L.length) : L.getD i true = L[i] := by
  rw [List.getD_eq_getElem?_getD, List.getElem?_eq_getElem h]
  rfl
def PutO (L : List Bool) (w : World) (v at' : Value) (wr : World) : Prop :=
  ∃ (O : List UInt8) (p : Nat), at' = .int .i64 (p : Int) ∧ p ≤ L.length + 8 ∧ wr.ownsRow w.heap.size 5 1 v O.length (O.map vB) ∧ Hid (O ++ stuffL (L.drop p) = stuffL L) ∧ Below w.heap.size w wr
def PutG (M : List Bool) (w : World) (g sum i : Value) (wr : World) : Prop :=
  ∃ j : Nat, j ≤ 7 ∧ i = .int .i64 (j : Int) ∧ sum = .int .i64 (cntT ((g7 M).take j) : Int) ∧ wr.ownsRow w.heap.size 5 1 g j ((oneL ((g7 M).take j)).map vB) ∧ Below w.heap.size w wr

theorem putO_next {L M : List Bool} {O : List UInt8} {p t : Nat} {c : UInt8} (HO : O ++ stuffL M = stuffL L) (HSC : stuffL M = c :: stuffL (M.drop (taken M))) (HLD : M.drop (taken M) = L.drop (p + taken M)) (ht : taken M = t) : (O ++ [c]) ++ stuffL (L.drop (p + t)) = stuffL L := by
  rw [← HO, HSC, HLD, ht, List.append_assoc]
  rfl

set_option maxHeartbeats 4000000 in
theorem refputT_any (b : List UInt8) (n : Nat) (A : Option Addr) (c : Nat) (w : World) (HN : Hid (b.length = n)) (hr : Rd vB w A b) (hn : n ≤ 100000) :
    Calls Tryz.prog 17 #[.slice A n c] w (RetY w (putT b)) := by
  obtain ⟨i0, hi, hz0, hz1, hz2⟩ := info_parts info_u8
  go_enter Tryz.func17, Tryz.ntmps17
  go_wp2_with fail
  refine (refbits_any b n A c _ HN hr (by omega)).mono ?_
  rintro e w1 ⟨A1, n1, c1, rfl, HN1, hc1, hr1, hb1⟩
  have hLl : (bitsL b).length = n1 := by rw [← HN1.out, one_length]
  have hn1 : n1 ≤ 800000 := by rw [← hLl, bits_length, HN.out]; omega
  have HPL : Hid (stuffL (bitsL b) = putT b) := rfl
  have hSl : (stuffL (bitsL b)).length ≤ 200000 := by
    have := (put_length b).2
    unfold putT at this
    rw [HN.out] at this
    omega
  generalize bitsL b = L at HN1 hr1 hLl HPL hSl
  subst hLl
  have HB1 := Lib.hid hb1
  have HSL := Lib.hid hSl
  clear hb1 hr HN1 hSl
  go_wp2_with fail
  go_loopw [4, 5] (fun v at' wr => PutO L w1 v at' wr) (fun _ at' _ => L.length - (intOf at').toNat)
  case atStart => exact ⟨[], 0, rfl, by omega, World.ownsRow_nil _ _ _ _, Lib.hid rfl, Below.refl _ _⟩
  case round =>
    obtain ⟨O, p, rfl, hp8, hown, HO, hbel⟩ := hrel
    by_cases h : p < L.length
    · have p1 : (p : Int) < (L.length : Int) := by omega
      have hOl : O.length ≤ 200000 := by
        have := congrArg List.length HO.out
        rw [List.length_append] at this
        have := HSL.out
        omega
      have hM0 : L.drop p ≠ [] := by
        intro e
        have := congrArg List.length e
        rw [List.length_drop, List.length_nil] at this
        omega
      have HSC := Lib.hid (stuff_cons (L.drop p) hM0)
      have HGD : Hid (∀ j, (L.drop p).getD j true = L.getD (p + j) true) := fun j => drop_getD L p j
      have hLD : (L.drop p).drop (taken (L.drop p)) = L.drop (p + taken (L.drop p)) := by rw [List.drop_drop]
      have HLD := Lib.hid hLD
      generalize hM : L.drop p = M at HSC HGD HO HLD
      clear hM0 hLD hM
      rename World => wo
      go_wp2_with fail
      go_loopw [6, 7, 8] (fun g s i wr => PutG M wo g s i wr) (fun _ _ i _ => 7 - (intOf i).toNat)
      case atStart => exact ⟨0, by omega, rfl, rfl, World.ownsRow_nil _ _ _ _, Below.refl _ _⟩
      case round =>
        obtain ⟨j, hj, rfl, rfl, hg, hbg⟩ := hrel
        have hle := hbg.size
        by_cases hj7 : j < 7
        · have j1 : (j : Int) < 7 := by omega
          have j0 : (0 : Int) ≤ (j : Int) := by omega
          obtain ⟨q, hq⟩ : ∃ q, M.getD j true = q := ⟨_, rfl⟩
          have HGT := Lib.hid (g7_take M j hj7)
          rw [hq] at HGT
          have hct : cntT ((g7 M).take (j + 1)) = cntT ((g7 M).take j) + (oneB q).toNat := by rw [HGT.out, cnt_snoc]
          have hq2 : L.getD (p + j) true = q := by rw [← HGD.out j, hq]
          have hcl : cntT ((g7 M).take j) ≤ 7 := by
            unfold cntT
            refine Nat.le_trans (List.length_filter_le _ _) ?_
            rw [List.length_take]
            omega
          obtain ⟨x, hx⟩ : ∃ x, oneB q = x := ⟨_, rfl⟩
          rw [hx] at hct
          obtain ⟨C, hC⟩ : ∃ C, cntT ((g7 M).take j) = C := ⟨_, rfl⟩
          rw [hC] at hct hcl ⊢
          have HCT := Lib.hid hct
          have HXQ := Lib.hid hx
          have hx2 : x.toNat ≤ 1 := by rw [← hx]; cases q <;> decide
          have hwx : IntKind.i64.wrap (x.toNat : Int) = (x.toNat : Int) := by rw [IntKind.wrap_i64]; omega
          clear hct hC hq
          by_cases hin : p + j < L.length
          · have hin1 : (p : Int) + (j : Int) < (L.length : Int) := by omega
            have hin0 : (0 : Int) ≤ (p : Int) + (j : Int) := by omega
            have hio : p + j < (oneL L).length := by rw [one_length]; exact hin
            obtain ⟨gb, ob, rfl, hgb, hcb⟩ := hr1.at hio
            have hcell : wr.cell? ⟨gb, ob + (p + j), none⟩ = some (.int .u8 (x.toNat : Int)) := by
              have e1 : (oneL L)[p + j] = x := by
                rw [← hx, ← hq2, getD_lt L _ hin]
                simp [oneL]
              have := (below_step hbel hbg).cell (p := ⟨gb, ob + (p + j), none⟩) hgb
              rw [this, hcb (p + j) hio, e1]
              rfl
            clear hcb hq2 hx hio
            go_wp2_with (at_builtin; refine wpList_append_own _ rfl _ _ 23 rfl wo.heap.size 5 i0 (.int .u8 0) 1 1 Tryz.underlying23 hi hz0 hz1 hz2 rfl (by decide) _ _ _ rfl (hg.alloc _) ⟨wr.heap.size, 0, none⟩ 1 1 [.int .u8 (x.toNat : Int)] rfl rfl (cell_one_new _ _ _) (by intro u hu; simp at hu; subst hu; rfl) (by unfold maxLen; omega) (by omega) (by simp; omega) ?_; intro v' w3 hown' hgrow' _)
            have hB3 : Below wo.heap.size wo w3 := (hbg.alloc hbg.size _).grown hgrow' (by simp; omega) (fun g hk => (hg.lt g hk).1)
            have hon : w3.ownsRow wo.heap.size 5 1 v' (j + 1) ((oneL ((g7 M).take (j + 1))).map vB) := by
              rw [HGT.out, one_append, List.map_append]
              have e : (oneL [q]).map vB = [.int .u8 (x.toNat : Int)] := by rw [← HXQ.out]; rfl
              rw [e]
              exact hown'
            have HR : Hid (PutG M wo v' (.int .i64 ((C : Int) + (x.toNat : Int))) (.int .i64 ((j : Int) + 1)) w3) := ⟨j + 1, hj7, by go_num, by rw [HCT.out]; congr 1, hon, hB3⟩
            clear hown' hgrow' hg hbg hB3 hon
            go_wp2_with fail
            go_roundw
            case rel => exact HR.out
            case measure => simp [intOf] <;> omega
          · have hin1 : ¬ (p : Int) + (j : Int) < (L.length : Int) := by omega
            have eq : q = true := by rw [← hq2, getD_true L _ (by omega)]
            have ex : x = 1 := by rw [← hx, eq]; rfl
            subst ex
            clear hq2 hx
            go_wp2_with (at_builtin; refine wpList_append_own _ rfl _ _ 23 rfl wo.heap.size 5 i0 (.int .u8 0) 1 1 Tryz.underlying23 hi hz0 hz1 hz2 rfl (by decide) _ _ _ rfl (hg.alloc _) ⟨wr.heap.size, 0, none⟩ 1 1 [.int .u8 1] rfl rfl (cell_one_new _ _ _) (by intro u hu; simp at hu; subst hu; rfl) (by unfold maxLen; omega) (by omega) (by simp; omega) ?_; intro v' w3 hown' hgrow' _)
            have hB3 : Below wo.heap.size wo w3 := (hbg.alloc hbg.size _).grown hgrow' (by simp; omega) (fun g hk => (hg.lt g hk).1)
            have hon : w3.ownsRow wo.heap.size 5 1 v' (j + 1) ((oneL ((g7 M).take (j + 1))).map vB) := by
              rw [HGT.out, one_append, List.map_append]
              have e : (oneL [q]).map vB = [.int .u8 1] := by rw [eq]; rfl
              rw [e]
              exact hown'
            have HR : Hid (PutG M wo v' (.int .i64 ((C : Int) + 1)) (.int .i64 ((j : Int) + 1)) w3) := ⟨j + 1, hj7, by go_num, by rw [HCT.out]; congr 1, hon, hB3⟩
            clear hown' hgrow' hg hbg hB3 hon
            go_wp2_with fail
            go_roundw
            case rel => exact HR.out
            case measure => simp [intOf] <;> omega
        · have ej : j = 7 := by omega
          subst ej
          have eg : (g7 M).take 7 = g7 M := rfl
          rw [eg] at hg ⊢
          obtain ⟨q0, q7, q8⟩ := cnt_g7 M
          obtain ⟨C, hC⟩ : ∃ C, cntT (g7 M) = C := ⟨_, rfl⟩
          rw [hC] at q0 q7 q8 ⊢
          clear eg hC
          by_cases ca : g7 M = List.replicate 7 false
          · have c0 : C = 0 := q0.2 ca
            subst c0
            have HE : Hid (eighth M = true) := by unfold Hid eighth; rw [if_pos ca]
            have HT : Hid (taken M = 7) := by unfold Hid taken; rw [if_pos (.inl ca)]
            clear q0 q7 q8 ca
            go_wp2_with (at_builtin; refine wpList_append_own _ rfl _ _ 23 rfl wo.heap.size 5 i0 (.int .u8 0) 1 1 Tryz.underlying23 hi hz0 hz1 hz2 rfl (by decide) _ _ _ rfl (hg.alloc _) ⟨wr.heap.size, 0, none⟩ 1 1 [.int .u8 1] rfl rfl (cell_one_new _ _ _) (by intro u hu; simp at hu; subst hu; rfl) (by unfold maxLen; omega) (by omega) (by simp; omega) ?_; intro v3 w3 hown3 hgrow3 _)
            have hB3 : Below wo.heap.size wo w3 := (hbg.alloc hbg.size _).grown hgrow3 (by simp; omega) (fun g hk => (hg.lt g hk).1)
            have hg8 : w3.ownsRow wo.heap.size 5 1 v3 8 ((oneL (g7 M ++ [true])).map vB) := by
              rw [one_append, List.map_append]
              exact hown3
            obtain ⟨A3, c3, rfl, hc3⟩ := own_form hg8
            have hrd3 : Rd vB w3 A3 (oneL (g7 M ++ [true])) := Rd.own hg8
            have HVL : Hid (val8 (g7 M ++ [true]) = val8 (g7 M ++ [eighth M])) := by unfold Hid; rw [HE.out]
            clear hown3 hgrow3 hg hbg hg8
            go_wp2_with fail
            refine (refvalue_any (g7 M ++ [true]) A3 c3 _ rfl hrd3).mono ?_
            rintro e w4 ⟨rfl, rfl⟩
            rw [HVL.out]
            obtain ⟨z, hz⟩ : ∃ z, val8 (g7 M ++ [eighth M]) = z := ⟨_, rfl⟩
            rw [hz] at HSC ⊢
            have hown4 := ownsRow_later hown hB3
            have hbw := below_step hbel hB3
            have hsz := hbw.size
            have HNX := Lib.hid (putO_next HO.out HSC.out HLD.out HT.out)
            clear hz hrd3 hB3
            go_wp2_with (at_builtin; refine wpList_append_own _ rfl _ _ 23 rfl w1.heap.size 5 i0 (.int .u8 0) 1 1 Tryz.underlying23 hi hz0 hz1 hz2 rfl (by decide) _ _ _ rfl (hown4.alloc _) ⟨w3.heap.size, 0, none⟩ 1 1 [.int .u8 (z.toNat : Int)] rfl rfl (cell_one_new _ _ _) (by intro u hu; simp at hu; subst hu; rfl) (by unfold maxLen; omega) (by omega) (by simp; omega) ?_; intro v5 w5 hown5 hgrow5 _)
            have hB5 : Below w1.heap.size w1 w5 := (hbw.alloc hbw.size _).grown hgrow5 (by simp; omega) (fun g hk => (hown4.lt g hk).1)
            have HR : Hid (PutO L w1 v5 (.int .i64 ((p : Int) + 7)) w5) := ⟨O ++ [z], p + 7, by go_num, by omega, by rw [List.length_append, List.map_append]; exact hown5, HNX, hB5⟩
            clear hown5 hgrow5 hown4 hbw hB5
            go_wp2_with fail
            go_roundw
            case rel => exact HR.out
            case measure => simp [intOf] <;> omega
          · by_cases cb : g7 M = List.replicate 7 true
            · have c7 : C = 7 := q7.2 cb
              subst c7
              have HE : Hid (eighth M = false) := by unfold Hid eighth; rw [if_neg ca, if_pos cb]
              have HT : Hid (taken M = 7) := by unfold Hid taken; rw [if_pos (.inr cb)]
              clear q0 q7 q8 ca cb
              go_wp2_with (at_builtin; refine wpList_append_own _ rfl _ _ 23 rfl wo.heap.size 5 i0 (.int .u8 0) 1 1 Tryz.underlying23 hi hz0 hz1 hz2 rfl (by decide) _ _ _ rfl (hg.alloc _) ⟨wr.heap.size, 0, none⟩ 1 1 [.int .u8 0] rfl rfl (cell_one_new _ _ _) (by intro u hu; simp at hu; subst hu; rfl) (by unfold maxLen; omega) (by omega) (by simp; omega) ?_; intro v3 w3 hown3 hgrow3 _)
              have hB3 : Below wo.heap.size wo w3 := (hbg.alloc hbg.size _).grown hgrow3 (by simp; omega) (fun g hk => (hg.lt g hk).1)
              have hg8 : w3.ownsRow wo.heap.size 5 1 v3 8 ((oneL (g7 M ++ [false])).map vB) := by
                rw [one_append, List.map_append]
                exact hown3
              obtain ⟨A3, c3, rfl, hc3⟩ := own_form hg8
              have hrd3 : Rd vB w3 A3 (oneL (g7 M ++ [false])) := Rd.own hg8
              have HVL : Hid (val8 (g7 M ++ [false]) = val8 (g7 M ++ [eighth M])) := by unfold Hid; rw [HE.out]
              clear hown3 hgrow3 hg hbg hg8
              go_wp2_with fail
              refine (refvalue_any (g7 M ++ [false]) A3 c3 _ rfl hrd3).mono ?_
              rintro e w4 ⟨rfl, rfl⟩
              rw [HVL.out]
              obtain ⟨z, hz⟩ : ∃ z, val8 (g7 M ++ [eighth M]) = z := ⟨_, rfl⟩
              rw [hz] at HSC ⊢
              have hown4 := ownsRow_later hown hB3
              have hbw := below_step hbel hB3
              have hsz := hbw.size
              have HNX := Lib.hid (putO_next HO.out HSC.out HLD.out HT.out)
              clear hz hrd3 hB3
              go_wp2_with (at_builtin; refine wpList_append_own _ rfl _ _ 23 rfl w1.heap.size 5 i0 (.int .u8 0) 1 1 Tryz.underlying23 hi hz0 hz1 hz2 rfl (by decide) _ _ _ rfl (hown4.alloc _) ⟨w3.heap.size, 0, none⟩ 1 1 [.int .u8 (z.toNat : Int)] rfl rfl (cell_one_new _ _ _) (by intro u hu; simp at hu; subst hu; rfl) (by unfold maxLen; omega) (by omega) (by simp; omega) ?_; intro v5 w5 hown5 hgrow5 _)
              have hB5 : Below w1.heap.size w1 w5 := (hbw.alloc hbw.size _).grown hgrow5 (by simp; omega) (fun g hk => (hown4.lt g hk).1)
              have HR : Hid (PutO L w1 v5 (.int .i64 ((p : Int) + 7)) w5) := ⟨O ++ [z], p + 7, by go_num, by omega, by rw [List.length_append, List.map_append]; exact hown5, HNX, hB5⟩
              clear hown5 hgrow5 hown4 hbw hB5
              go_wp2_with fail
              go_roundw
              case rel => exact HR.out
              case measure => simp [intOf] <;> omega
            · have c1 : C ≠ 0 := fun e => ca (q0.1 e)
              have c2 : C ≠ 7 := fun e => cb (q7.1 e)
              have HT : Hid (taken M = 8) := by unfold Hid taken; rw [if_neg (fun h => h.elim ca cb)]
              have he : eighth M = L.getD (p + 7) true := by unfold eighth; rw [if_neg ca, if_neg cb, HGD.out 7]
              have c3 : ((C : Int) == 0) = false := beq_eq_false_iff_ne.2 (by omega)
              have c4 : ((C : Int) == 7) = false := beq_eq_false_iff_ne.2 (by omega)
              clear q0 q7 ca cb
              by_cases hin : p + 7 < L.length
              · have hin1 : (p : Int) + 7 < (L.length : Int) := by omega
                have hin0 : (0 : Int) ≤ (p : Int) + 7 := by omega
                have hio : p + 7 < (oneL L).length := by rw [one_length]; exact hin
                obtain ⟨gb, ob, rfl, hgb, hcb⟩ := hr1.at hio
                obtain ⟨q, hq⟩ : ∃ q, L[p + 7] = q := ⟨_, rfl⟩
                have HE : Hid (eighth M = q) := by unfold Hid; rw [he, getD_lt L _ hin, hq]
                obtain ⟨x, hx⟩ : ∃ x, oneB q = x := ⟨_, rfl⟩
                have hcell : wr.cell? ⟨gb, ob + (p + 7), none⟩ = some (.int .u8 (x.toNat : Int)) := by
                  have e1 : (oneL L)[p + 7] = x := by
                    rw [← hx, ← hq]
                    simp [oneL]
                  have := (below_step hbel hbg).cell (p := ⟨gb, ob + (p + 7), none⟩) hgb
                  rw [this, hcb (p + 7) hio, e1]
                  rfl
                have hone : (oneL [q]).map vB = [.int .u8 (x.toNat : Int)] := by rw [← hx]; rfl
                clear hcb hio he hq hx
                go_wp2_with (at_builtin; refine wpList_append_own _ rfl _ _ 23 rfl wo.heap.size 5 i0 (.int .u8 0) 1 1 Tryz.underlying23 hi hz0 hz1 hz2 rfl (by decide) _ _ _ rfl (hg.alloc _) ⟨wr.heap.size, 0, none⟩ 1 1 [.int .u8 (x.toNat : Int)] rfl rfl (cell_one_new _ _ _) (by intro u hu; simp at hu; subst hu; rfl) (by unfold maxLen; omega) (by omega) (by simp; omega) ?_; intro v3 w3 hown3 hgrow3 _)
                have hB3 : Below wo.heap.size wo w3 := (hbg.alloc hbg.size _).grown hgrow3 (by simp; omega) (fun g hk => (hg.lt g hk).1)
                have hg8 : w3.ownsRow wo.heap.size 5 1 v3 8 ((oneL (g7 M ++ [q])).map vB) := by
                  rw [one_append, List.map_append, hone]
                  exact hown3
                obtain ⟨A3, c3, rfl, hc3⟩ := own_form hg8
                have hrd3 : Rd vB w3 A3 (oneL (g7 M ++ [q])) := Rd.own hg8
                have HVL : Hid (val8 (g7 M ++ [q]) = val8 (g7 M ++ [eighth M])) := by unfold Hid; rw [HE.out]
                clear hown3 hgrow3 hg hbg hg8
                go_wp2_with fail
                refine (refvalue_any (g7 M ++ [q]) A3 c3 _ rfl hrd3).mono ?_
                rintro e w4 ⟨rfl, rfl⟩
                rw [HVL.out]
                obtain ⟨z, hz⟩ : ∃ z, val8 (g7 M ++ [eighth M]) = z := ⟨_, rfl⟩
                rw [hz] at HSC ⊢
                have hown4 := ownsRow_later hown hB3
                have hbw := below_step hbel hB3
                have hsz := hbw.size
                have HNX := Lib.hid (putO_next HO.out HSC.out HLD.out HT.out)
                clear hz hrd3 hB3
                go_wp2_with (at_builtin; refine wpList_append_own _ rfl _ _ 23 rfl w1.heap.size 5 i0 (.int .u8 0) 1 1 Tryz.underlying23 hi hz0 hz1 hz2 rfl (by decide) _ _ _ rfl (hown4.alloc _) ⟨w3.heap.size, 0, none⟩ 1 1 [.int .u8 (z.toNat : Int)] rfl rfl (cell_one_new _ _ _) (by intro u hu; simp at hu; subst hu; rfl) (by unfold maxLen; omega) (by omega) (by simp; omega) ?_; intro v5 w5 hown5 hgrow5 _)
                have hB5 : Below w1.heap.size w1 w5 := (hbw.alloc hbw.size _).grown hgrow5 (by simp; omega) (fun g hk => (hown4.lt g hk).1)
                have HR : Hid (PutO L w1 v5 (.int .i64 ((p : Int) + 7 + 1)) w5) := ⟨O ++ [z], p + 8, by go_num, by omega, by rw [List.length_append, List.map_append]; exact hown5, HNX, hB5⟩
                clear hown5 hgrow5 hown4 hbw hB5
                go_wp2_with fail
                go_roundw
                case rel => exact HR.out
                case measure => simp [intOf] <;> omega
              · have hin1 : ¬ (p : Int) + 7 < (L.length : Int) := by omega
                have HE : Hid (eighth M = true) := by unfold Hid; rw [he, getD_true L _ (by omega)]
                clear he
                go_wp2_with (at_builtin; refine wpList_append_own _ rfl _ _ 23 rfl wo.heap.size 5 i0 (.int .u8 0) 1 1 Tryz.underlying23 hi hz0 hz1 hz2 rfl (by decide) _ _ _ rfl (hg.alloc _) ⟨wr.heap.size, 0, none⟩ 1 1 [.int .u8 1] rfl rfl (cell_one_new _ _ _) (by intro u hu; simp at hu; subst hu; rfl) (by unfold maxLen; omega) (by omega) (by simp; omega) ?_; intro v3 w3 hown3 hgrow3 _)
                have hB3 : Below wo.heap.size wo w3 := (hbg.alloc hbg.size _).grown hgrow3 (by simp; omega) (fun g hk => (hg.lt g hk).1)
                have hg8 : w3.ownsRow wo.heap.size 5 1 v3 8 ((oneL (g7 M ++ [true])).map vB) := by
                  rw [one_append, List.map_append]
                  exact hown3
                obtain ⟨A3, c3, rfl, hc3⟩ := own_form hg8
                have hrd3 : Rd vB w3 A3 (oneL (g7 M ++ [true])) := Rd.own hg8
                have HVL : Hid (val8 (g7 M ++ [true]) = val8 (g7 M ++ [eighth M])) := by unfold Hid; rw [HE.out]
                clear hown3 hgrow3 hg hbg hg8
                go_wp2_with fail
                refine (refvalue_any (g7 M ++ [true]) A3 c3 _ rfl hrd3).mono ?_
                rintro e w4 ⟨rfl, rfl⟩
                rw [HVL.out]
                obtain ⟨z, hz⟩ : ∃ z, val8 (g7 M ++ [eighth M]) = z := ⟨_, rfl⟩
                rw [hz] at HSC ⊢
                have hown4 := ownsRow_later hown hB3
                have hbw := below_step hbel hB3
                have hsz := hbw.size
                have HNX : Hid ((O ++ [z]) ++ stuffL (L.drop (p + 7)) = stuffL L) := by unfold Hid; rw [show L.drop (p + 7) = L.drop (p + 8) by rw [List.drop_of_length_le (by omega), List.drop_of_length_le (by omega)]]; exact putO_next HO.out HSC.out HLD.out HT.out
                clear hz hrd3 hB3
                go_wp2_with (at_builtin; refine wpList_append_own _ rfl _ _ 23 rfl w1.heap.size 5 i0 (.int .u8 0) 1 1 Tryz.underlying23 hi hz0 hz1 hz2 rfl (by decide) _ _ _ rfl (hown4.alloc _) ⟨w3.heap.size, 0, none⟩ 1 1 [.int .u8 (z.toNat : Int)] rfl rfl (cell_one_new _ _ _) (by intro u hu; simp at hu; subst hu; rfl) (by unfold maxLen; omega) (by omega) (by simp; omega) ?_; intro v5 w5 hown5 hgrow5 _)
                have hB5 : Below w1.heap.size w1 w5 := (hbw.alloc hbw.size _).grown hgrow5 (by simp; omega) (fun g hk => (hown4.lt g hk).1)
                have HR : Hid (PutO L w1 v5 (.int .i64 ((p : Int) + 7)) w5) := ⟨O ++ [z], p + 7, by go_num, by omega, by rw [List.length_append, List.map_append]; exact hown5, HNX, hB5⟩
                clear hown5 hgrow5 hown4 hbw hB5
                go_wp2_with fail
                go_roundw
                case rel => exact HR.out
                case measure => simp [intOf] <;> omega
    · have hd : L.drop p = [] := List.drop_of_length_le (by omega)
      have e := HO.out
      rw [hd, stuff_nil, List.append_nil] at e
      have HOP : Hid (O = putT b) := by rw [e]; exact HPL.out
      have p1 : ¬ (p : Int) < (L.length : Int) := by omega
      have hB := below_step HB1.out hbel
      clear hd e
      go_wp2_with fail
      go_ret
      rw [← HOP.out]
      exact RetY.own rfl hown hB
end Go.Proofs.YtcnjackbiimjdaaGreatDoor
/-
  What the reference's call Get of layer 11 answers. No conditions but those typed.
-/
namespace Go.Proofs.YtcnjackbiimjdaaGreatDoor
set_option maxRecDepth 100000
open Go.RowKit
set_option linter.unusedSimpArgs false
set_option linter.unusedVariables false

/-- A call that hands back a list of bytes and a bool. -/
def RetB (w : World) (l : List UInt8) (k : Bool) (e : Ending) (w' : World) : Prop := ∃ A n c, e = .returned (.tuple #[.slice A n c, .bool k]) ∧ Hid (l.length = n) ∧ n ≤ c ∧ Rd vB w' A l ∧ Below w.heap.size w w'
theorem strY (n : Nat) {w : World} {A : Option Addr} {l : List UInt8} {c : Nat} (H : Hid (l.length = n)) (h : Rd vB w A l) : ∀ W, Below w.heap.size w W → (convert 23 9 (.slice A n c)).run Tryz.prog W = .ok (.string (strL l)) W :=
  fun W hW => run_str W _ _ _ Tryz.underlying23 Tryz.underlying5 Tryz.underlying9 A l n c H.out (h.keep hW)
theorem bits_block : ∀ (b : List UInt8) (k : Nat) (h : k < b.length), ((bitsL b).drop (8 * k)).take 8 = bits8 b[k]
  | c :: b, 0, _ => rfl
  | c :: b, k + 1, h => by
    have e : bitsL (c :: b) = bits8 c ++ bitsL b := rfl
    have e8 : (bits8 c).length = 8 := rfl
    rw [e, show 8 * (k + 1) = 8 + 8 * k by omega, ← List.drop_drop, show (8 : Nat) = (bits8 c).length from rfl, List.drop_left]
    exact bits_block b k (by simpa using h)
theorem raw_snoc (b : List UInt8) (k : Nat) (h : k < b.length) : rawL (b.take (k + 1)) = rawL (b.take k) ++ rawG b[k] := by
  unfold rawL
  rw [List.take_succ_eq_append_getElem h, List.flatMap_append]
  simp
theorem raw_len (c : UInt8) : (rawG c).length ≤ 8 := by
  unfold rawG
  split
  · rw [List.length_take]; show min 7 8 ≤ 8; omega
  · exact Nat.le_refl 8
theorem raw_length_le : ∀ b : List UInt8, (rawL b).length ≤ 8 * b.length
  | [] => by simp [rawL]
  | c :: b => by
    have e : rawL (c :: b) = rawG c ++ rawL b := rfl
    rw [e, List.length_append, List.length_cons]
    have := raw_len c
    have := raw_length_le b
    omega
theorem cut_next : ∀ (l : List Bool), 7 < l.length → cut8 l = val8 (l.take 8) :: cut8 (l.drop 8)
  | a :: b :: c :: d :: e :: f :: g :: h :: t, _ => rfl
theorem cut_short : ∀ (l : List Bool), ¬ 7 < l.length → cut8 l = []
  | [], _ => rfl
  | [_], _ => rfl
  | [_, _], _ => rfl
  | [_, _, _], _ => rfl
  | [_, _, _, _], _ => rfl
  | [_, _, _, _, _], _ => rfl
  | [_, _, _, _, _, _], _ => rfl
  | [_, _, _, _, _, _, _], _ => rfl
  | _ :: _ :: _ :: _ :: _ :: _ :: _ :: _ :: _, h => by simp at h
theorem cut_length : ∀ (n : Nat) (l : List Bool), l.length ≤ n → 8 * (cut8 l).length ≤ l.length
  | 0, l, h => by
    have : l = [] := List.eq_nil_of_length_eq_zero (by omega)
    subst this
    exact Nat.le_refl _
  | n + 1, l, h => by
    by_cases h7 : 7 < l.length
    · rw [cut_next l h7, List.length_cons]
      have := cut_length n (l.drop 8) (by rw [List.length_drop]; omega)
      rw [List.length_drop] at this
      omega
    · rw [cut_short l h7]
      exact Nat.zero_le _
theorem cnt_bits (c : UInt8) : (cntT ((bits8 c).take 7) = 0 ↔ (bits8 c).take 7 = List.replicate 7 false) ∧ (cntT ((bits8 c).take 7) = 7 ↔ (bits8 c).take 7 = List.replicate 7 true) ∧ cntT ((bits8 c).take 7) ≤ 7 := cnt_seven _ _ _ _ _ _ _
def GetR (s : List UInt8) (w : World) (v i : Value) (wr : World) : Prop :=
  ∃ k : Nat, k ≤ s.length ∧ i = .int .i64 (k : Int) ∧ wr.ownsRow w.heap.size 5 1 v (oneL (rawL (s.take k))).length ((oneL (rawL (s.take k))).map vB) ∧ Below w.heap.size w wr
def CntSt (B : List Bool) (s i : Value) : Prop := ∃ j : Nat, j ≤ 7 ∧ i = .int .i64 (j : Int) ∧ s = .int .i64 (cntT (B.take j) : Int)
def CutR (R : List Bool) (w : World) (v i : Value) (wr : World) : Prop :=
  ∃ (k : Nat) (O : List UInt8), i = .int .i64 (k : Int) ∧ k ≤ R.length + 8 ∧ wr.ownsRow w.heap.size 5 1 v O.length (O.map vB) ∧ Hid (O ++ cut8 (R.drop k) = cut8 R) ∧ Below w.heap.size w wr
theorem strs_beq (a b : List UInt8) : ((strL a).toList == (strL b).toList) = (a == b) := by rw [strL_toList, strL_toList]

set_option maxHeartbeats 4000000 in
theorem refgetT_any (s : List UInt8) (n : Nat) (A : Option Addr) (c : Nat) (w : World) (HN : Hid (s.length = n)) (hr : Rd vB w A s) (hc : n ≤ c) (hn : n ≤ 10000) :
    Calls Tryz.prog 23 #[.slice A n c] w (RetB w (if putT (candL s) = s then candL s else []) (decide (putT (candL s) = s))) := by
  obtain ⟨i0, hi, hz0, hz1, hz2⟩ := info_parts info_u8
  obtain ⟨LG, hLG⟩ : ∃ L, (if putT (candL s) = s then candL s else []) = L := ⟨_, rfl⟩
  obtain ⟨ok, hok⟩ : ∃ k, decide (putT (candL s) = s) = k := ⟨_, rfl⟩
  rw [hLG, hok]
  have HLG := Lib.hid hLG
  have HOK := Lib.hid hok
  clear hLG hok
  go_enter Tryz.func23, Tryz.ntmps23
  go_wp2_with fail
  refine (refbits_any s n A c _ HN hr (by omega)).mono ?_
  rintro e w1 ⟨A1, n1, c1, rfl, HN1, hc1, hr1, hb1⟩
  have HL1 : Hid (n1 = 8 * n) := by unfold Hid; rw [← HN1.out, one_length, bits_length, HN.out]
  replace hr := hr.keep hb1
  have HB1 := Lib.hid hb1
  clear hb1
  go_wp2_with fail
  go_loopw [5, 6] (fun v i wr => GetR s w1 v i wr) (fun _ i _ => n - (intOf i).toNat)
  case atStart => exact ⟨0, Nat.zero_le _, rfl, World.ownsRow_nil _ _ _ _, Below.refl _ _⟩
  case round =>
    obtain ⟨k, hk, rfl, hown, hbel⟩ := hrel
    by_cases h : k < n
    · have hks : k < s.length := by rw [HN.out]; exact h
      have h8 : 8 * k < (oneL (bitsL s)).length := by rw [HN1.out, HL1.out]; omega
      obtain ⟨ga, oa, rfl, hga, hca⟩ := hr1.at h8
      have hmid := (hr1.keep hbel).mid (8 * k) (8 * k + 8) c1 (by rw [HN1.out]; exact hc1)
      have hc8 : 8 * k + 8 ≤ c1 := by have := HL1.out; omega
      rw [if_neg (by omega), show 8 * k + 8 - 8 * k = 8 by omega] at hmid
      have e1 : (some (⟨ga, oa, none⟩ : Addr)).map (·.add (8 * k * 1)) = some ⟨ga, oa + 8 * k, none⟩ := by
        simp only [Option.map_some, Nat.mul_one, Addr.add]
        split <;> simp_all
      have e2 : ((oneL (bitsL s)).drop (8 * k)).take 8 = oneL (bits8 s[k]) := by
        unfold oneL
        rw [← List.map_drop, ← List.map_take, bits_block s k hks]
      rw [e1, e2] at hmid
      have HRS := Lib.hid (raw_snoc s k hks)
      generalize s[k] = y at hmid HRS
      have HRG : Hid (rawG y = if (bits8 y).take 7 = List.replicate 7 false ∨ (bits8 y).take 7 = List.replicate 7 true then (bits8 y).take 7 else bits8 y) := rfl
      have HCN := Lib.hid (cnt_bits y)
      have hBl : (bits8 y).length = 8 := rfl
      have hRl : (rawL (s.take k)).length ≤ 80000 := by
        have := raw_length_le (s.take k)
        rw [List.length_take] at this
        omega
      generalize rawL (s.take k) = P at HRS hown hRl
      generalize bits8 y = B at hmid HRG HCN hBl
      obtain ⟨j8, hj8⟩ : ∃ j8, j8 = 8 * k := ⟨_, rfl⟩
      have k8 : 8 * (k : Int) = (j8 : Int) := by omega
      have k80 : (0 : Int) ≤ (j8 : Int) := by omega
      have k8c : (j8 : Int) + 8 ≤ (c1 : Int) := by omega
      have k8n : ¬ c1 = j8 := by omega
      have k8w : IntKind.i64.wrap (j8 : Int) = (j8 : Int) := by rw [IntKind.wrap_i64]; omega
      have k1 : (k : Int) < (n : Int) := by omega
      have k88 : j8 + 8 - j8 = 8 := by omega
      have kc8 : 8 ≤ c1 - j8 := by omega
      have k71 : (7 : Int) ≤ ((c1 - j8 : Nat) : Int) := by omega
      rw [← hj8] at hmid
      clear e1 e2 hca h8 hj8 hc8
      go_wp2_with fail
      have hsz := hbel.size
      go_loopw [8, 9] (fun sum i wx => CntSt B sum i ∧ wr = wx) (fun _ i _ => 7 - (intOf i).toNat)
      case atStart => exact ⟨⟨0, by omega, rfl, rfl⟩, rfl⟩
      case round =>
        obtain ⟨⟨j, hj, rfl, rfl⟩, rfl⟩ := hrel
        by_cases hj7 : j < 7
        · have hjB : j < B.length := by omega
          have hjo : j < (oneL B).length := by rw [one_length]; exact hjB
          obtain ⟨gx, ox, ex, hgx, hcx⟩ := hmid.at hjo
          injection ex with ex
          injection ex with ex1 ex2 _
          subst ex1 ex2
          have hc0 := hcx j hjo
          obtain ⟨q, hq⟩ : ∃ q, B[j] = q := ⟨_, rfl⟩
          have e : (oneL B)[j] = oneB q := by rw [← hq]; simp [oneL]
          rw [e] at hc0
          unfold vB at hc0
          have hct : cntT (B.take (j + 1)) = cntT (B.take j) + (oneB q).toNat := by rw [List.take_succ_eq_append_getElem hjB, hq, cnt_snoc]
          have hcl : cntT (B.take j) ≤ 7 := by
            unfold cntT
            refine Nat.le_trans (List.length_filter_le _ _) ?_
            rw [List.length_take]
            omega
          have hx2 : (oneB q).toNat ≤ 1 := by cases q <;> decide
          obtain ⟨x, hx⟩ : ∃ x, (oneB q).toNat = x := ⟨_, rfl⟩
          rw [hx] at hc0 hct hx2
          obtain ⟨C, hC⟩ : ∃ C, cntT (B.take j) = C := ⟨_, rfl⟩
          rw [hC] at hct hcl ⊢
          have hwx : IntKind.i64.wrap (x : Int) = (x : Int) := by rw [IntKind.wrap_i64]; omega
          have HR : Hid (CntSt B (.int .i64 ((C : Int) + (x : Int))) (.int .i64 ((j : Int) + 1))) := ⟨j + 1, hj7, by go_num, by rw [hct]; congr 1⟩
          have j1 : (j : Int) < 7 := by omega
          have j0 : (0 : Int) ≤ (j : Int) := by omega
          clear hcx hq e hx hC hct
          go_wp2_with fail
          go_roundw
          case rel => exact ⟨HR.out, trivial⟩
          case measure => simp [intOf] <;> omega
        · have ej : j = 7 := by omega
          subst ej
          obtain ⟨q0, q7, q8⟩ := HCN.out
          have ht7 : Rd vB wr (some ⟨ga, oa + j8, none⟩) (oneL (B.take 7)) := by
            have := hmid.take 7
            rwa [show (oneL B).take 7 = oneL (B.take 7) from (List.map_take).symm] at this
          have hB7 : (B.take 7).length = 7 := by rw [List.length_take]; omega
          obtain ⟨C, hC⟩ : ∃ C, cntT (B.take 7) = C := ⟨_, rfl⟩
          rw [hC] at q0 q7 q8 ⊢
          clear hC
          by_cases ca : C = 0 ∨ C = 7
          · have hrg : rawG y = B.take 7 := by
              rw [HRG.out, if_pos (ca.elim (fun h => .inl (q0.1 h)) (fun h => .inr (q7.1 h)))]
            rw [hrg] at HRS
            have hcut := fun W => run_cut_to (P := Tryz.prog) 23 5 Tryz.underlying23 size_uint8 (some ⟨ga, oa + j8, none⟩) 8 (c1 - j8) 7 (by omega) W
            have HB7 : Hid ((oneL (B.take 7)).length = 7) := by unfold Hid; rw [one_length]; exact hB7
            generalize B.take 7 = G at ht7 HRS HB7
            clear q0 q7 q8 hrg HRG HCN hmid hB7
            rcases ca with c0 | c0
            · subst c0
              go_wp2_with (at_builtin; refine wpList_append_rd _ rfl _ _ 23 rfl w1.heap.size 5 i0 (.int .u8 0) 1 Tryz.underlying23 hi hz0 hz1 hz2 rfl _ _ _ rfl hown _ (oneL G) _ (by rw [HB7.out]; rfl) ht7 vB_one (by rw [HB7.out, one_length]; unfold maxLen; omega) (by rw [HB7.out, one_length]; omega) hsz ?_; intro v4 w4 hown4 hgrow4)
              have hB4 : Below w1.heap.size w1 w4 := hbel.grown hgrow4 hsz (fun g hk => (hown.lt g hk).1)
              have HR : Hid (GetR s w1 v4 (.int .i64 ((k : Int) + 1)) w4) := ⟨k + 1, hks, by go_num, by rw [HRS.out, one_append, List.length_append, List.map_append]; exact hown4, hB4⟩
              clear hown4 hgrow4 hown hbel hB4
              go_wp2_with fail
              go_roundw
              case rel => exact HR.out
              case measure => simp [intOf] <;> omega
            · subst c0
              go_wp2_with (at_builtin; refine wpList_append_rd _ rfl _ _ 23 rfl w1.heap.size 5 i0 (.int .u8 0) 1 Tryz.underlying23 hi hz0 hz1 hz2 rfl _ _ _ rfl hown _ (oneL G) _ (by rw [HB7.out]; rfl) ht7 vB_one (by rw [HB7.out, one_length]; unfold maxLen; omega) (by rw [HB7.out, one_length]; omega) hsz ?_; intro v4 w4 hown4 hgrow4)
              have hB4 : Below w1.heap.size w1 w4 := hbel.grown hgrow4 hsz (fun g hk => (hown.lt g hk).1)
              have HR : Hid (GetR s w1 v4 (.int .i64 ((k : Int) + 1)) w4) := ⟨k + 1, hks, by go_num, by rw [HRS.out, one_append, List.length_append, List.map_append]; exact hown4, hB4⟩
              clear hown4 hgrow4 hown hbel hB4
              go_wp2_with fail
              go_roundw
              case rel => exact HR.out
              case measure => simp [intOf] <;> omega
          · have hrg : rawG y = B := by
              rw [HRG.out, if_neg (fun h => ca (h.elim (fun h => .inl (q0.2 h)) (fun h => .inr (q7.2 h))))]
            rw [hrg] at HRS
            have HB8 : Hid ((oneL B).length = 8) := by unfold Hid; rw [one_length]; exact hBl
            have n0 : C ≠ 0 := fun h => ca (.inl h)
            have n7 : C ≠ 7 := fun h => ca (.inr h)
            have c0 : ((C : Int) == 0) = false := beq_eq_false_iff_ne.2 (by omega)
            have c7 : ((C : Int) == 7) = false := beq_eq_false_iff_ne.2 (by omega)
            clear q0 q7 q8 hrg HRG HCN ht7 hB7 ca
            go_wp2_with (at_builtin; refine wpList_append_rd _ rfl _ _ 23 rfl w1.heap.size 5 i0 (.int .u8 0) 1 Tryz.underlying23 hi hz0 hz1 hz2 rfl _ _ _ rfl hown _ (oneL B) _ (by rw [HB8.out]; exact congrArg (fun m => Value.slice (some ⟨ga, oa + j8, none⟩) m (c1 - j8)) k88) hmid vB_one (by rw [HB8.out, one_length]; unfold maxLen; omega) (by rw [HB8.out, one_length]; omega) hsz ?_; intro v4 w4 hown4 hgrow4)
            have hB4 : Below w1.heap.size w1 w4 := hbel.grown hgrow4 hsz (fun g hk => (hown.lt g hk).1)
            have HR : Hid (GetR s w1 v4 (.int .i64 ((k : Int) + 1)) w4) := ⟨k + 1, hks, by go_num, by rw [HRS.out, one_append, List.length_append, List.map_append]; exact hown4, hB4⟩
            clear hown4 hgrow4 hown hbel hB4
            go_wp2_with fail
            go_roundw
            case rel => exact HR.out
            case measure => simp [intOf] <;> omega
    · rename World => w5
      have ek : k = s.length := by rw [HN.out]; have := HN.out; omega
      rw [ek, List.take_length] at hown
      have HCD : Hid (candL s = cut8 (rawL s)) := rfl
      have hRl : (rawL s).length ≤ 80000 := by
        have := raw_length_le s
        rw [HN.out] at this
        omega
      generalize rawL s = R at hown HCD hRl
      have hown' := hown
      obtain ⟨A5, c5, rfl, hc5, hr5⟩ := own_slice (l := oneL R) hown'
      have HR5 : Hid ((oneL R).length = R.length) := one_length R
      rw [HR5.out] at hc5 ⊢
      have hb15 := below_step HB1.out hbel
      replace hr := hr.keep hbel
      have k1 : ¬ (k : Int) < (n : Int) := by omega
      have hcutl := cut_length _ R (Nat.le_refl _)
      clear hown hown' hbel hr1 ek
      go_wp2_with fail
      go_loopw [10, 11] (fun v i wr => CutR R w5 v i wr) (fun _ i _ => R.length - (intOf i).toNat)
      case atStart => exact ⟨0, [], rfl, by omega, World.ownsRow_nil _ _ _ _, Lib.hid rfl, Below.refl _ _⟩
      case round =>
        obtain ⟨p, O, rfl, hp, hown, HO, hbel⟩ := hrel
        have hOl : O.length ≤ 80000 := by
          have := congrArg List.length HO.out
          rw [List.length_append] at this
          omega
        have hsz := hbel.size
        by_cases h7 : p + 7 < R.length
        · have p7 : (p : Int) + 7 < (R.length : Int) := by omega
          have hpo : p < (oneL R).length := by rw [HR5.out]; omega
          obtain ⟨gr, or', rfl, hgr, hcr⟩ := hr5.at hpo
          have hmid := (hr5.keep hbel).mid p (p + 8) c5 (by rw [HR5.out]; exact hc5)
          rw [if_neg (by omega), show p + 8 - p = 8 by omega] at hmid
          have e1 : (some (⟨gr, or', none⟩ : Addr)).map (·.add (p * 1)) = some ⟨gr, or' + p, none⟩ := by
            simp only [Option.map_some, Nat.mul_one, Addr.add]
            split <;> simp_all
          have e2 : ((oneL R).drop p).take 8 = oneL ((R.drop p).take 8) := by
            unfold oneL
            rw [← List.map_drop, ← List.map_take]
          rw [e1, e2] at hmid
          have hl8 : ((R.drop p).take 8).length = 8 := by rw [List.length_take, List.length_drop]; omega
          have HNX := Lib.hid (cut_next (R.drop p) (by rw [List.length_drop]; omega))
          have hdd : (R.drop p).drop 8 = R.drop (p + 8) := List.drop_drop
          rw [hdd] at HNX
          have HO2 := HO.out
          rw [HNX.out] at HO2
          obtain ⟨z, hz⟩ : ∃ z, val8 ((R.drop p).take 8) = z := ⟨_, rfl⟩
          rw [hz] at HO2
          have HO3 : Hid ((O ++ [z]) ++ cut8 (R.drop (p + 8)) = cut8 R) := by unfold Hid; rw [← HO2, List.append_assoc]; rfl
          have hz2 : val8 ((R.drop p).take 8) = z := hz
          generalize (R.drop p).take 8 = G at hmid hl8 hz2
          have HZ := Lib.hid hz2
          have p0 : (0 : Int) ≤ (p : Int) := by omega
          have p8c : (p : Int) + 8 ≤ (c5 : Int) := by omega
          have pnc : ¬ c5 = p := by omega
          have p88 : p + 8 - p = 8 := by omega
          have HL8 := Lib.hid hl8
          clear e1 e2 hcr hdd HO2 hz hz2 HNX hpo hl8
          go_wp2_with fail
          refine (refvalue_any G _ (c5 - p) _ HL8.out hmid).mono ?_
          rintro e w7 ⟨rfl, rfl⟩
          rw [HZ.out]
          go_wp2_with (at_builtin; refine wpList_append_own _ rfl _ _ 23 rfl w5.heap.size 5 i0 (.int .u8 0) 1 1 Tryz.underlying23 hi hz0 hz1 hz2 rfl (by decide) _ _ _ rfl (hown.alloc _) ⟨wr.heap.size, 0, none⟩ 1 1 [.int .u8 (z.toNat : Int)] rfl rfl (cell_one_new _ _ _) (by intro u hu; simp at hu; subst hu; rfl) (by unfold maxLen; omega) (by omega) (by simp; omega) ?_; intro v8 w8 hown8 hgrow8 _)
          have hB8 : Below w5.heap.size w5 w8 := (hbel.alloc hbel.size _).grown hgrow8 (by simp; omega) (fun g hk => (hown.lt g hk).1)
          have HR : Hid (CutR R w5 v8 (.int .i64 ((p : Int) + 8)) w8) := ⟨p + 8, O ++ [z], by go_num, by omega, by rw [List.length_append, List.map_append]; exact hown8, HO3, hB8⟩
          clear hown8 hgrow8 hown hbel hB8
          go_wp2_with fail
          go_roundw
          case rel => exact HR.out
          case measure => simp [intOf] <;> omega
        · have p7 : ¬ (p : Int) + 7 < (R.length : Int) := by omega
          have hcs := cut_short (R.drop p) (by rw [List.length_drop]; omega)
          have e := HO.out
          rw [hcs, List.append_nil] at e
          have HOC : Hid (O = candL s) := by unfold Hid; rw [HCD.out]; exact e
          obtain ⟨A6, c6, rfl, hc6, hr6⟩ := own_slice hown
          have HOL : Hid (O.length = O.length) := rfl
          have hs1 := strY (c := c) n HN (hr.keep hbel)
          have hb16 := below_step hb15 hbel
          have hOs : O.length ≤ 10000 := by rw [e]; omega
          clear hown hr5 hr hcs e
          obtain ⟨T, hT⟩ : ∃ T, putT O = T := ⟨_, rfl⟩
          have hst : ((strL T).toList == (strL s).toList) = ok := by
            rw [strs_beq, ← HOK.out, ← HOC.out, hT, Bool.eq_iff_iff, beq_iff_eq, decide_eq_true_iff]
          have hsn : ((strL T).toList != (strL s).toList) = !ok := by rw [bne, hst]
          have HLO : Hid (LG = if ok = true then O else []) := by
            unfold Hid
            rw [← HLG.out, ← HOC.out, hT]
            have hk := HOK.out
            rw [← HOC.out, hT] at hk
            by_cases h : T = s
            · rw [if_pos h, if_pos (by rw [← hk]; exact decide_eq_true h)]
            · rw [if_neg h, if_neg (by rw [← hk, decide_eq_false h]; decide)]
          have HT := Lib.hid hT
          clear hT
          go_upto_region 20 with fail
          have hBase := (Below.refl wr.heap.size wr).drew
          refine wp_region_plan (.step 0 false (.step 3 false (.step 4 false (.step 1 true (.step 2 false (.step 5 false (.nil))))))) (by kernel_rfl) (by kernel_rfl) (by rfl) (by kernel_rfl) ?_
          iterate 3 (refine plan_read rfl (by rfl) (v := ?_) ?_ ?_; rotate_left 1; (intro W hW; have hW0 := below_step hBase hW; (try dsimp only at hW); go_simp <;> with_reducible rfl); simp only [List.getElem_toArray, List.getElem_cons_zero, List.getElem_cons_succ, Act.put, List.setIfInBounds_toArray, List.set_cons_zero, List.set_cons_succ])
          (refine plan_make rfl (by rfl) (fun K hK => ?_); go_simp; (refine (refputT_any O O.length _ c6 _ HOL (hr6.keep hBase) (by omega)).mono ?_; rintro e w7 ⟨A7, n7, c7, rfl, HN7, hc7, hr7, hbx⟩; rw [HT.out] at HN7 hr7); refine hK.out _ _ hbx ?_; clear hK K; replace hBase := below_step hBase hbx)
          have hs2 := strY (c := c7) n7 HN7 hr7
          iterate 2 (refine plan_read rfl (by rfl) (v := ?_) ?_ ?_; rotate_left 1; (intro W hW; have hW0 := below_step hBase hW; (try dsimp only at hW); go_simp <;> with_reducible rfl); simp only [List.getElem_toArray, List.getElem_cons_zero, List.getElem_cons_succ, Act.put, List.setIfInBounds_toArray, List.set_cons_zero, List.set_cons_succ])
          refine plan_done ?_
          have hr8 := hr6.keep hBase
          have hB8 := below_step hb16 hBase
          clear hs1 hs2 hst hr6 hr7 hbel
          cases ok
          · have hsn' : ((strL T).toList != (strL s).toList) = true := hsn
            clear hsn
            go_wp2_with fail
            go_ret2
            rw [HLO.out]
            exact ⟨none, 0, 0, rfl, Lib.hid rfl, Nat.le_refl _, Rd.nil, hB8⟩
          · have hsn' : ((strL T).toList != (strL s).toList) = false := hsn
            clear hsn
            go_wp2_with fail
            go_ret2
            have e : LG = O := by simpa using HLO.out
            rw [e]
            exact ⟨A6, O.length, c6, rfl, Lib.hid rfl, hc6, hr8, hB8⟩
end Go.Proofs.YtcnjackbiimjdaaGreatDoor
/-
  Bits held in a number, and one group, as plain functions. No conditions but those typed.
-/
namespace Go.Proofs.YtcnjackbiimjdaaGreatDoor
set_option maxRecDepth 100000
set_option linter.unusedVariables false
set_option linter.unusedSimpArgs false

/-! ### Bits held in a number -/
/-- The number of bits, the highest first. -/
def numB (l : List Bool) : Nat := l.foldl (fun v x => 2 * v + x.toNat) 0
theorem numB_snoc (l : List Bool) (x : Bool) : numB (l ++ [x]) = 2 * numB l + x.toNat := by unfold numB; rw [List.foldl_append]; rfl
theorem snoc_indSt {p : List Bool → Prop} (h0 : p []) (h1 : ∀ l x, p l → p (l ++ [x])) (l : List Bool) : p l := by
  have : ∀ (n : Nat) (l : List Bool), l.length = n → p l := by
    intro n
    induction n with
    | zero => intro l hl; rw [List.eq_nil_of_length_eq_zero hl]; exact h0
    | succ n ih =>
      intro l hl
      have hne : l ≠ [] := by intro e; subst e; simp at hl
      rw [← List.dropLast_concat_getLast hne]
      exact h1 _ _ (ih _ (by rw [List.length_dropLast, hl]; rfl))
  exact this _ l rfl
theorem numB_append (a b : List Bool) : numB (a ++ b) = numB a * 2 ^ b.length + numB b := by
  refine snoc_indSt (p := fun b => numB (a ++ b) = numB a * 2 ^ b.length + numB b) ?_ ?_ b
  · simp [numB]
  · intro l x ih
    rw [← List.append_assoc, numB_snoc, numB_snoc, ih, List.length_append, List.length_singleton, Nat.pow_succ]
    have : numB a * (2 ^ l.length * 2) = 2 * (numB a * 2 ^ l.length) := by rw [← Nat.mul_assoc, Nat.mul_comm]
    omega
theorem numB_lt (l : List Bool) : numB l < 2 ^ l.length := by
  refine snoc_indSt (p := fun l => numB l < 2 ^ l.length) (by decide) ?_ l
  intro l x ih
  rw [numB_snoc, List.length_append, List.length_singleton, Nat.pow_succ]
  have : x.toNat < 2 := by cases x <;> decide
  omega
theorem val8_num (l : List Bool) : (val8 l).toNat = numB l % 256 := by
  refine snoc_indSt (p := fun l => (val8 l).toNat = numB l % 256) rfl ?_ l
  intro l x ih
  have e : val8 (l ++ [x]) = 2 * val8 l + oneB x := by unfold val8; rw [List.foldl_append]; rfl
  have ex : (oneB x).toNat = x.toNat := by cases x <;> rfl
  have : x.toNat < 2 := by cases x <;> decide
  rw [e, numB_snoc, UInt8.toNat_add, UInt8.toNat_mul, ih, ex]
  have : (2 : UInt8).toNat = 2 := rfl
  rw [this]
  omega
theorem bits_num (c : UInt8) : numB (bits8 c) = c.toNat := by
  have h := val8_num (bits8 c)
  have h2 := numB_lt (bits8 c)
  rw [val_bits] at h
  have : (2 : Nat) ^ (bits8 c).length = 256 := by rw [show (bits8 c).length = 8 from rfl]
  omega
/-- The lowest bits of a number are those: all of P. -/
def Holds (H : Nat) (P : List Bool) : Prop := H % 2 ^ P.length = numB P
theorem two64 : 18446744073709551616 = 2 ^ 64 := (by simp)
theorem Holds.nil (H : Nat) : Holds H [] := by unfold Holds; simp [numB]; omega
theorem Holds.more {H : Nat} {P : List Bool} (h : Holds H P) (R : List Bool) (hl : P.length + R.length ≤ 64) : Holds ((H * 2 ^ R.length + numB R) % 18446744073709551616) (P ++ R) := by
  unfold Holds at h ⊢
  have hp : (2 : Nat) ^ 64 = 2 ^ (P.length + R.length) * 2 ^ (64 - (P.length + R.length)) := by rw [← Nat.pow_add]; congr 1; omega
  rw [show 18446744073709551616 = 2 ^ 64 from two64, List.length_append, hp, Nat.mod_mul_right_mod, numB_append, ← h, Nat.pow_add]
  have hr := numB_lt R
  have e : H * 2 ^ R.length + numB R = (H / 2 ^ P.length) * (2 ^ P.length * 2 ^ R.length) + (H % 2 ^ P.length * 2 ^ R.length + numB R) := by
    conv => lhs; rw [← Nat.div_add_mod H (2 ^ P.length)]
    rw [Nat.add_mul, Nat.mul_comm (2 ^ P.length) (H / _), Nat.mul_assoc]
    omega
  rw [e, Nat.mul_comm (H / _), Nat.mul_add_mod, Nat.mod_eq_of_lt]
  have h1 : H % 2 ^ P.length + 1 ≤ 2 ^ P.length := Nat.mod_lt _ (Nat.two_pow_pos _)
  have h2 := Nat.mul_le_mul_right (2 ^ R.length) h1
  rw [Nat.add_mul, Nat.one_mul] at h2
  omega
theorem Holds.rest {H : Nat} {P : List Bool} (h : Holds H P) (k : Nat) : Holds H (P.drop k) := by
  unfold Holds at h ⊢
  have e : numB P = numB (P.take k) * 2 ^ (P.drop k).length + numB (P.drop k) := by rw [← numB_append, List.take_append_drop]
  have hd : 2 ^ (P.drop k).length ∣ 2 ^ P.length := Nat.pow_dvd_pow 2 (by rw [List.length_drop]; omega)
  rw [← Nat.mod_mod_of_dvd H hd, h, e, Nat.mul_add_mod_self_right, Nat.mod_eq_of_lt (numB_lt _)]
theorem Holds.top {H : Nat} {P : List Bool} (h : Holds H P) (h8 : 8 ≤ P.length) : H / 2 ^ (P.length - 8) % 256 = (val8 (P.take 8)).toNat := by
  unfold Holds at h
  have e : numB P = numB (P.take 8) * 2 ^ (P.drop 8).length + numB (P.drop 8) := by rw [← numB_append, List.take_append_drop]
  have hl : (P.drop 8).length = P.length - 8 := List.length_drop
  have hp : (2 : Nat) ^ P.length = 2 ^ (P.length - 8) * 256 := by rw [show (256 : Nat) = 2 ^ 8 by decide, ← Nat.pow_add]; congr 1; omega
  have ht := numB_lt (P.take 8)
  rw [List.length_take, Nat.min_eq_left h8] at ht
  rw [val8_num, Nat.mod_eq_of_lt (show numB (P.take 8) < 256 from ht), ← Nat.mod_mul_right_div_self, ← hp, h, e, hl, Nat.mul_comm]
  have := numB_lt (P.drop 8)
  rw [hl] at this
  rw [Nat.mul_add_div (Nat.two_pow_pos _), Nat.div_eq_of_lt this]
  rfl
theorem num_ones (n : Nat) : numB (List.replicate n true) + 1 = 2 ^ n := by
  induction n with
  | zero => rfl
  | succ n ih =>
    rw [List.replicate_succ', numB_snoc, Nat.pow_succ]
    show 2 * _ + 1 + 1 = _
    omega
/-- What is left, and ones behind it, as the program's shifts have it. -/
theorem Holds.last {H : Nat} {P : List Bool} (h : Holds H P) (h8 : P.length ≤ 8) : ((H + 1) * 2 ^ (8 - P.length) - 1) % 256 = (val8 (P ++ List.replicate (8 - P.length) true)).toNat := by
  unfold Holds at h
  rw [val8_num, numB_append, List.length_replicate, ← h]
  have h1 := num_ones (8 - P.length)
  have hp : (256 : Nat) = 2 ^ P.length * 2 ^ (8 - P.length) := by rw [← Nat.pow_add, show P.length + (8 - P.length) = 8 by omega]
  have e : (H + 1) * 2 ^ (8 - P.length) - 1 = 256 * (H / 2 ^ P.length) + (H % 2 ^ P.length * 2 ^ (8 - P.length) + numB (List.replicate (8 - P.length) true)) := by
    conv => lhs; rw [← Nat.div_add_mod H (2 ^ P.length)]
    rw [Nat.add_mul, Nat.add_mul, Nat.one_mul, hp, Nat.mul_right_comm]
    omega
  rw [e, Nat.mul_add_mod]

/-! ### One group -/
def gz (y : UInt8) : UInt8 := val8 (g7 (bits8 y) ++ [eighth (bits8 y)])
def gt (y : UInt8) : Nat := taken (bits8 y)
def alikeT (y : UInt8) : Bool := decide (y.toNat / 2 = 0 ∨ y.toNat / 2 = 127)
theorem g_table : ∀ n, n < 256 → (gt (UInt8.ofNat n) = if alikeT (UInt8.ofNat n) then 7 else 8) ∧ (gz (UInt8.ofNat n)).toNat = (if alikeT (UInt8.ofNat n) then (n &&& 254) ||| (1 - n / 128) else n) ∧ rawG (UInt8.ofNat n) = (if alikeT (UInt8.ofNat n) then (bits8 (UInt8.ofNat n)).take 7 else bits8 (UInt8.ofNat n)) := by decide +kernel
theorem g_eq (M : List Bool) (y : UInt8) (h : bits8 y = M.take 8 ++ List.replicate (8 - M.length) true) : gz y = val8 (g7 M ++ [eighth M]) ∧ gt y = taken M := by
  rw [← g8_pad] at h
  have h1 : g7 (bits8 y) = g7 M := by rw [h]; rfl
  have h2 : (bits8 y).getD 7 true = M.getD 7 true := by rw [h]; rfl
  unfold gz gt eighth taken
  rw [h1, h2]
  exact ⟨rfl, rfl⟩
theorem val_take (M : List Bool) (h : 8 ≤ M.length) (y : UInt8) (hy : y.toNat = (val8 (M.take 8)).toNat) : bits8 y = M.take 8 ++ List.replicate (8 - M.length) true := by
  rw [UInt8.toNat_inj.1 hy, bits_val8 _ (by rw [List.length_take]; omega), show 8 - M.length = 0 by omega, List.replicate_zero, List.append_nil]
theorem val_last (M : List Bool) (h : M.length ≤ 8) (y : UInt8) (hy : y.toNat = (val8 (M ++ List.replicate (8 - M.length) true)).toNat) : bits8 y = M.take 8 ++ List.replicate (8 - M.length) true := by
  rw [UInt8.toNat_inj.1 hy, bits_val8 _ (by rw [List.length_append, List.length_replicate]; omega), List.take_of_length_le h]
end Go.Proofs.YtcnjackbiimjdaaGreatDoor
/-
  What bytes.Equal answers. No conditions but those typed.
-/
namespace Go.Proofs.YtcnjackbiimjdaaGreatDoor
set_option maxRecDepth 100000
open Go.RowKit
set_option linter.unusedSimpArgs false
set_option linter.unusedVariables false

theorem str_beq (a b : List UInt8) : ((strL a).toList == (strL b).toList) = decide (a = b) := by
  unfold strL
  rw [ByteArray.toList_mk, ByteArray.toList_mk]
  by_cases h : a = b <;> simp [h]

theorem equal_any (a b : List UInt8) (n m : Nat) (A B : Option Addr) (c d : Nat) (w : World) (HN : Hid (a.length = n)) (HM : Hid (b.length = m)) (ha : Rd vB w A a) (hb : Rd vB w B b) :
    Calls Tryz.prog 48 #[.slice A n c, .slice B m d] w fun e w' => e = .returned (.bool (decide (a = b))) ∧ w = w' := by
  have s0 : (convert 23 9 (.slice A n c)).run Tryz.prog w = .ok (.string (strL a)) w := run_str _ _ _ _ Tryz.underlying23 Tryz.underlying5 Tryz.underlying9 _ a _ _ HN.out ha
  have s1 : (convert 23 9 (.slice B m d)).run Tryz.prog w = .ok (.string (strL b)) w := run_str _ _ _ _ Tryz.underlying23 Tryz.underlying5 Tryz.underlying9 _ b _ _ HM.out hb
  have b0 := str_beq a b
  obtain ⟨r, hr⟩ : ∃ r, r = decide (a = b) := ⟨_, rfl⟩
  rw [← hr] at b0 ⊢
  generalize strL a = SA at s0 b0
  generalize strL b = SB at s1 b0
  clear hr ha hb
  go_enter Tryz.func48, Tryz.ntmps48
  go_wp2_with fail
  go_ret
  exact ⟨rfl, rfl⟩
end Go.Proofs.YtcnjackbiimjdaaGreatDoor
