/-
  What the reference's call Read of layer 12 answers. No conditions but those typed.
-/
import Derived.Test.YtcnjackbiimjdaaDoorQ3
import Derived.WalkKit
import Derived.WalkSpells
import Derived.LoopTactic
import Derived.Lib.Hide
import Derived.Deep.DeepCutAuto
import Derived.Deep.QuietTactic
import Derived.StillTailTactics
import Derived.OrdersIn
import Derived.TacticsIn
import Derived.RangeFuncCalls
namespace Go.Proofs.YtcnjackbiimjdaaDoor
set_option maxRecDepth 100000
open Go.RowKit
set_option linter.unusedSimpArgs false
set_option linter.unusedVariables false

theorem info_u64 : (Tryd.prog.info? 22).map (fun i => (i.zero, i.size, i.bytes)) = some (some (.int .u64 0), 1, 8) := by kernel_rfl
theorem size_pay : (Tryd.prog.info? 25).map (·.size) = some 4 := by kernel_rfl
theorem one_four (a b c d : Value) (ha : a.oneCell' = true) (hb : b.oneCell' = true) (hc : c.oneCell' = true) (hd : d.oneCell' = true) : ∀ v ∈ [a, b, c, d], v.oneCell' = true := fun v hv => by
  simp at hv
  rcases hv with rfl | rfl | rfl | rfl <;> assumption
abbrev ResF := Int × Nat × Nat × Nat × List UInt8
def contF : Nat → List Nat → List UInt8 → ResF
  | 0, v, r => readT (v.getD 0 0) (v.getD 1 0) (v.getD 2 0) r
  | k + 1, v, r => if (readN r).1 = 0 then contF k (v ++ [(readN r).2.1]) (readN r).2.2 else ((readN r).1, 0, 0, 0, [])
theorem cont_succ (k : Nat) (v : List Nat) (r : List UInt8) : contF (k + 1) v r = if (readN r).1 = 0 then contF k (v ++ [(readN r).2.1]) (readN r).2.2 else ((readN r).1, 0, 0, 0, []) := rfl
theorem cut_mid (A : Option Addr) (n cap lo m : Nat) (h : lo + m ≤ cap) (W : World) : (Instr.slice 23 (.slice A n cap) (some (.int .i64 (lo : Int))) (some (.int .i64 ((lo : Int) + (m : Int)))) none).run Tryd.prog W = .ok (.slice (if cap = lo then A else A.map (·.add (lo * 1))) m (cap - lo)) W := by
  have he : Tryd.prog.elem 23 = 5 := by simp [Program.elem, Tryd.underlying23]
  rw [run_slice_lh W 23 A n cap (by rw [he]; exact Tryd.underlying23) .i64 .i64 (lo : Int) ((lo : Int) + (m : Int)) (by omega) (by omega) (by omega), he, size_uint8]
  simp only [Result.andThen, sliced, Int.toNat_natCast]
  rw [show ((lo : Int) + (m : Int)).toNat - lo = m by omega]
theorem cont_read (r : List UInt8) : contF 3 [] r = readB r := by
  simp only [readB, readE, readC, contF]
  rfl
/-- A call that hands back a payload and an error. -/
def RetPay (w : World) (F : ResF) (e : Ending) (w' : World) : Prop := ∃ A n k, e = .returned (.tuple #[aggP F.2.1 F.2.2.1 F.2.2.2.1 A n k, .int .i64 F.1]) ∧ Hid (F.2.2.2.2.length = n) ∧ n ≤ k ∧ Rd vB w' A F.2.2.2.2 ∧ Below w.heap.size w w'
def threeP (g o : Nat) (a b c : Value) (W : World) : Prop := W.cell? ⟨g, o, none⟩ = some a ∧ (W.cell? ⟨g, o + 1, none⟩ = some b ∧ W.cell? ⟨g, o + 2, none⟩ = some c)
def RdR (b : List UInt8) (F : ResF) (w : World) (at' v iv : Value) (wr : World) : Prop :=
  ∃ (i p : Nat) (N : List Nat), i ≤ 3 ∧ N.length = i ∧ p ≤ b.length ∧ iv = .int .i64 (i : Int) ∧ at' = .int .i64 (p : Int) ∧ Hid (contF (3 - i) N (b.drop p) = F) ∧ wr.ownsRow (w.heap.size + 1) 22 1 v i (N.map uV) ∧ Row wr w.heap.size 25 [.int .u64 0, .int .u64 0, .int .u64 0, .slice none 0 0] ∧ Below w.heap.size w wr

end Go.Proofs.YtcnjackbiimjdaaDoor
/-
  What the program's reader of layer 12 does (landed code): its calls, one by one. No conditions but those typed.
-/
namespace Go.Proofs.YtcnjackbiimjdaaDoor
set_option maxRecDepth 100000
open Go.RowKit
set_option linter.unusedSimpArgs false
set_option linter.unusedVariables false

theorem Row.only {g q : Nat} {w w' : World} {t : TypeId} {l : List Value} (h : Row w q t l) (k : Only g w w') (hq : q ≠ g) : Row w' q t l := (k.other q hq h.lt).trans h
theorem lt_ne {S : List UInt8} {A : Option Addr} {g : Nat} (h : S ≠ [] → ∀ a, A = some a → a.block < g) : S ≠ [] → ∀ a, A = some a → a.block ≠ g := fun h1 a ha => Nat.ne_of_lt (h h1 a ha)
/-- The reader's block: what is left, and what was wrong. -/
def RdS (g : Nat) (S : List UInt8) (n : Nat) (k : Int) (w : World) : Prop := ∃ A c, Row w g 73 [.slice A n c, .int .i64 k] ∧ Hid (S.length = n) ∧ n ≤ c ∧ Rd vB w A S ∧ (S ≠ [] → ∀ a, A = some a → a.block < g)

theorem cut_fromB {P : Program} (t e : TypeId) (ht : P.underlying t = some (.slice e)) (hz : ∀ w, (sizeOf e).run P w = .ok 1 w) (A : Option Addr) (n cap k : Nat) (hk : k ≤ n) (hc : n ≤ cap) :
    ∃ A', (∀ w, (Instr.slice t (.slice A n cap) (some (.int .i64 (k : Int))) none none).run P w = .ok (.slice A' (n - k) (cap - k)) w) ∧
      (∀ {α : Type} (f : α → Value) (w : World) (l : List α), l.length = n → Rd f w A l → Rd f w A' (l.drop k)) ∧ (∀ a', A' = some a' → ∃ a, A = some a ∧ a'.block = a.block) := by
  have ht' : P.underlying t = some (.slice (P.elem t)) := by simp [Program.elem, ht]
  have he : P.elem t = e := by simp [Program.elem, ht]
  refine ⟨if cap = k then A else A.map (·.add (k * 1)), fun w => ?_, fun f w l hl h => h.drop k cap (by omega), fun a' h => ?_⟩
  · rw [run_slice_l w t A n cap ht' .i64 (k : Int) (by omega) (by omega), he, hz]
    simp [sliced]
  · split at h
    · exact ⟨a', h, rfl⟩
    · cases A with
      | none => cases h
      | some a =>
        injection h with h
        subst h
        exact ⟨a, rfl, by show (a.add (k * 1)).block = a.block; simp [Addr.add] <;> (try split) <;> rfl⟩
/-! ### keep -/
theorem keep_bad (g : Nat) (v : Value) (k e : Int) (w : World) (hR : Row w g 73 [v, .int .i64 k]) (hk : k ≠ 0) :
    Calls Tryd.prog 58 #[.pointer (some ⟨g, 0, none⟩), .int .i64 e] w fun e₁ w' => e₁ = .returned (.tuple #[]) ∧ w = w' := by
  have c1 : w.cell? ⟨g, 1, none⟩ = some (.int .i64 k) := hR.cell rfl
  have k1 : (k == 0) = false := beq_eq_false_iff_ne.2 hk
  go_enter Tryd.func58, Tryd.ntmps58
  go_wp2_with fail
  first | go_end0 | refine bodyPost_ret (results_none rfl _ _ _) rfl ?_
  exact ⟨rfl, rfl⟩
theorem keep_ok (g : Nat) (v : Value) (e : Int) (w : World) (hR : Row w g 73 [v, .int .i64 0]) :
    Calls Tryd.prog 58 #[.pointer (some ⟨g, 0, none⟩), .int .i64 e] w fun e₁ w' => e₁ = .returned (.tuple #[]) ∧ Row w' g 73 [v, .int .i64 e] ∧ Only g w w' := by
  have c1 : w.cell? ⟨g, 1, none⟩ = some (.int .i64 0) := hR.cell rfl
  have f1 := hR.frozen 1
  go_enter Tryd.func58, Tryd.ntmps58
  go_wp2_with fail
  first | go_end0 | refine bodyPost_ret (results_none rfl _ _ _) rfl ?_
  exact ⟨rfl, hR.setCell 1 _, (Only.refl g w).setCell 1 _⟩

/-! ### next -/
theorem next_bad (g n : Nat) (A : Option Addr) (c : Nat) (k : Int) (m : Int) (w : World) (hR : Row w g 73 [.slice A n c, .int .i64 k]) (hk : k ≠ 0) :
    Calls Tryd.prog 34 #[.pointer (some ⟨g, 0, none⟩), .int .i64 m] w fun e₁ w' => e₁ = .returned (.slice none 0 0) ∧ w = w' := by
  have c0 : w.cell? ⟨g, 0, none⟩ = some (.slice A n c) := hR.cell rfl
  have c1 : w.cell? ⟨g, 1, none⟩ = some (.int .i64 k) := hR.cell rfl
  have k1 : (k == 0) = false := beq_eq_false_iff_ne.2 hk
  have k2 : (k != 0) = true := by rw [bne, k1]; rfl
  by_cases h : (n : Int) < m
  · go_enter Tryd.func34, Tryd.ntmps34
    go_wp2_with fail
    refine (keep_bad g _ k 2 w hR hk).mono ?_
    rintro e₁ w1 ⟨rfl, rfl⟩
    go_wp2_with fail
    go_ret
    exact ⟨rfl, rfl⟩
  · go_enter Tryd.func34, Tryd.ntmps34
    go_wp2_with fail
    go_ret
    exact ⟨rfl, rfl⟩
theorem next_short (g : Nat) (S : List UInt8) (n m : Nat) (w : World) (h : RdS g S n 0 w) (hm : n < m) :
    Calls Tryd.prog 34 #[.pointer (some ⟨g, 0, none⟩), .int .i64 (m : Int)] w fun e₁ w' => e₁ = .returned (.slice none 0 0) ∧ RdS g S n 2 w' ∧ Only g w w' := by
  obtain ⟨A, c, hR, HN, hc, hr, hA⟩ := h
  have c0 : w.cell? ⟨g, 0, none⟩ = some (.slice A n c) := hR.cell rfl
  have i1 : (n : Int) < (m : Int) := by omega
  go_enter Tryd.func34, Tryd.ntmps34
  go_wp2_with fail
  refine (keep_ok g _ 2 w hR).mono ?_
  rintro e₁ w1 ⟨rfl, hR1, hO⟩
  have hr1 := hr.only hO (lt_ne hA)
  have c0 : w1.cell? ⟨g, 0, none⟩ = some (.slice A n c) := hR1.cell rfl
  have c1 : w1.cell? ⟨g, 1, none⟩ = some (.int .i64 2) := hR1.cell rfl
  go_wp2_with fail
  go_ret
  exact ⟨rfl, ⟨A, c, hR1, HN, hc, hr1, hA⟩, hO⟩
theorem next_ok (g : Nat) (S : List UInt8) (n m : Nat) (w : World) (h : RdS g S n 0 w) (hm : m ≤ n) (hn : n ≤ 100000) :
    Calls Tryd.prog 34 #[.pointer (some ⟨g, 0, none⟩), .int .i64 (m : Int)] w fun e₁ w' => ∃ A c, e₁ = .returned (.slice A m c) ∧ Rd vB w' A (S.take m) ∧ RdS g (S.drop m) (n - m) 0 w' ∧ Only g w w' := by
  obtain ⟨A, c, hR, HN, hc, hr, hA⟩ := h
  have c0 : w.cell? ⟨g, 0, none⟩ = some (.slice A n c) := hR.cell rfl
  have c1 : w.cell? ⟨g, 1, none⟩ = some (.int .i64 0) := hR.cell rfl
  have f0 := hR.frozen 0
  have i1 : ¬ (n : Int) < (m : Int) := by omega
  have i0 : (0 : Int) ≤ (m : Int) := by omega
  have i2 : (m : Int) ≤ (c : Int) := by omega
  obtain ⟨A', hsl, hcut, hA'⟩ := cut_fromB (P := Tryd.prog) 23 5 Tryd.underlying23 size_uint8 A n c m (by omega) (by omega)
  have hto := run_cut_to (P := Tryd.prog) 23 5 Tryd.underlying23 size_uint8 A n c m (by omega)
  have hO := (Only.refl g w).setCell 0 (.slice A' (n - m) (c - m))
  have hR' := hR.setCell 0 (.slice A' (n - m) (c - m))
  have hr1 := hcut vB w S HN.out hr
  have hr2 := hr.take m
  have hne : ∀ j, S.drop j ≠ [] → S ≠ [] := fun j h e => h (by rw [e, List.drop_nil])
  have hnt : ∀ j, S.take j ≠ [] → S ≠ [] := fun j h e => h (by rw [e, List.take_nil])
  have hX : RdS g (S.drop m) (n - m) 0 (w.setCell ⟨g, 0, none⟩ (.slice A' (n - m) (c - m))) := by
    refine ⟨A', c - m, hR', by unfold Hid; rw [List.length_drop, HN.out], by omega, hr1.only hO ?_, ?_⟩
    · intro h a' ha'
      obtain ⟨a, ha, e⟩ := hA' a' ha'
      rw [e]
      exact Nat.ne_of_lt (hA (hne m h) a ha)
    · intro h a' ha'
      obtain ⟨a, ha, e⟩ := hA' a' ha'
      rw [e]
      exact hA (hne m h) a ha
  have hY : Rd vB (w.setCell ⟨g, 0, none⟩ (.slice A' (n - m) (c - m))) A (S.take m) := hr2.only hO (fun h a ha => Nat.ne_of_lt (hA (hnt m h) a ha))
  have HX := Lib.hid (And.intro hX (And.intro hY hO))
  clear hX hY hO hR' hr1 hr2 hne hnt hA' hcut hr hA hR
  go_enter Tryd.func34, Tryd.ntmps34
  go_wp2_with fail
  go_ret
  exact ⟨A, ⟨c, rfl⟩, HX.out.2.1, HX.out.1, HX.out.2.2⟩

/-! ### one -/
theorem one_bad (g n : Nat) (A : Option Addr) (c : Nat) (k : Int) (w : World) (hR : Row w g 73 [.slice A n c, .int .i64 k]) (hk : k ≠ 0) :
    Calls Tryd.prog 57 #[.pointer (some ⟨g, 0, none⟩)] w fun e₁ w' => e₁ = .returned (.int .u8 0) ∧ w = w' := by
  go_enter Tryd.func57, Tryd.ntmps57
  go_wp2_with fail
  refine (next_bad g n A c k 1 w hR hk).mono ?_
  rintro e₁ w1 ⟨rfl, rfl⟩
  go_wp2_with fail
  go_ret
  exact ⟨rfl, rfl⟩
theorem one_short (g : Nat) (w : World) (h : RdS g [] 0 0 w) :
    Calls Tryd.prog 57 #[.pointer (some ⟨g, 0, none⟩)] w fun e₁ w' => e₁ = .returned (.int .u8 0) ∧ RdS g [] 0 2 w' ∧ Only g w w' := by
  go_enter Tryd.func57, Tryd.ntmps57
  go_wp2_with fail
  refine (next_short g [] 0 1 w h (by omega)).mono ?_
  rintro e₁ w1 ⟨rfl, h1, h2⟩
  go_wp2_with fail
  go_ret
  exact ⟨rfl, h1, h2⟩
theorem one_ok (g : Nat) (x : UInt8) (r : List UInt8) (n : Nat) (w : World) (h : RdS g (x :: r) n 0 w) (hn : n ≤ 100000) :
    Calls Tryd.prog 57 #[.pointer (some ⟨g, 0, none⟩)] w fun e₁ w' => e₁ = .returned (.int .u8 (x.toNat : Int)) ∧ RdS g r (n - 1) 0 w' ∧ Only g w w' := by
  have hn1 : 1 ≤ n := by
    obtain ⟨_, _, _, HN, _⟩ := h
    have := HN.out
    rw [List.length_cons] at this
    omega
  go_enter Tryd.func57, Tryd.ntmps57
  go_wp2_with fail
  refine (next_ok g (x :: r) n 1 w h hn1 hn).mono ?_
  rintro e₁ w1 ⟨A, c, rfl, hr, h1, h2⟩
  have hr' : Rd vB w1 A [x] := hr
  have h1' : RdS g r (n - 1) 0 w1 := h1
  obtain ⟨b, o, rfl, hb, hc⟩ := hr'.at (show 0 < [x].length by simp)
  have hc0 : w1.cell? ⟨b, o, none⟩ = some (.int .u8 (x.toNat : Int)) := hc 0 (by simp)
  clear hr hc h1 hr'
  go_wp2_with fail
  go_ret
  exact ⟨rfl, h1', h2⟩

/-! ### mark -/
/-- What is wrong, and what is left: if nothing is wrong. -/
def RdT (g : Nat) (k : Int) (S : List UInt8) (w : World) : Prop := ∃ S' n, RdS g S' n k w ∧ n ≤ 100000 ∧ (k = 0 → S' = S)
theorem RdT.below {g : Nat} {k : Int} {S : List UInt8} {w w' : World} (h : RdT g k S w) (hb : Below (g + 1) w w') : RdT g k S w' := by
  obtain ⟨S', n, ⟨A, c, hR, HN, hc, hr, hA⟩, hn, h2⟩ := h
  refine ⟨S', n, ⟨A, c, hR.keep hb (by omega), HN, hc, fun hne => ?_, hA⟩, hn, h2⟩
  obtain ⟨b, o, rfl, hcell⟩ := hr hne
  have hlt := hA hne _ rfl
  refine ⟨b, o, rfl, fun i hi => ?_⟩
  rw [← hcell i hi]
  exact hb.cell (p := ⟨b, o + i, none⟩) (show b < g + 1 by exact Nat.lt_succ_of_lt hlt)
theorem RdT.lt {g : Nat} {k : Int} {S : List UInt8} {w : World} (h : RdT g k S w) : g < w.heap.size := by
  obtain ⟨S', n, ⟨A, c, hR, _⟩, _⟩ := h
  exact hR.lt
def markK : List UInt8 → Int × List UInt8
  | [] => (2, [])
  | x :: r => if x ≠ 87 then (3, []) else (0, r)
theorem mark_any (g : Nat) (b : List UInt8) (n : Nat) (w : World) (h : RdS g b n 0 w) (hn : n ≤ 100000) :
    Calls Tryd.prog 32 #[.pointer (some ⟨g, 0, none⟩)] w fun e₁ w' => e₁ = .returned (.tuple #[]) ∧ RdT g (markK b).1 (markK b).2 w' ∧ Only g w w' := by
  cases b with
  | nil =>
    have en : n = 0 := by
      obtain ⟨_, _, _, HN, _⟩ := h
      exact HN.out.symm
    subst en
    go_enter Tryd.func32, Tryd.ntmps32
    go_wp2_with fail
    refine (one_short g w h).mono ?_
    rintro e₁ w1 ⟨rfl, h1, h2⟩
    go_wp2_with fail
    obtain ⟨A, c, hR, _⟩ := id h1
    refine (keep_bad g _ 2 3 w1 hR (by decide)).mono ?_
    rintro e₁ w2 ⟨rfl, rfl⟩
    go_wp2_with fail
    first | go_end0 | refine bodyPost_ret (results_none rfl _ _ _) rfl ?_
    exact ⟨rfl, ⟨[], 0, h1, by omega, fun h => absurd h (by decide)⟩, h2⟩
  | cons x r =>
    by_cases hx : x = 87
    · subst hx
      go_enter Tryd.func32, Tryd.ntmps32
      go_wp2_with fail
      refine (one_ok g 87 r n w h hn).mono ?_
      rintro e₁ w1 ⟨rfl, h1, h2⟩
      have e87 : ((87 : UInt8).toNat : Int) = 87 := rfl
      rw [e87]
      go_wp2_with fail
      first | go_end0 | refine bodyPost_ret (results_none rfl _ _ _) rfl ?_
      exact ⟨rfl, ⟨r, n - 1, h1, by omega, fun _ => rfl⟩, h2⟩
    · have HM : Hid (markK (x :: r) = (3, [])) := if_pos hx
      have hx2 : x.toNat ≠ 87 := fun e => hx (UInt8.toNat_inj.1 e)
      have hx3 : ((x.toNat : Int) == 87) = false := beq_eq_false_iff_ne.2 (by omega)
      have hx4 : ((x.toNat : Int) != 87) = true := by rw [bne, hx3]; rfl
      rw [HM.out]
      go_enter Tryd.func32, Tryd.ntmps32
      go_wp2_with fail
      refine (one_ok g x r n w h hn).mono ?_
      rintro e₁ w1 ⟨rfl, h1, h2⟩
      obtain ⟨A, c, hR, HN, hc, hr, hA⟩ := id h1
      go_wp2_with fail
      refine (keep_ok g _ 3 w1 hR).mono ?_
      rintro e₁ w2 ⟨rfl, hR2, h3⟩
      go_wp2_with fail
      first | go_end0 | refine bodyPost_ret (results_none rfl _ _ _) rfl ?_
      exact ⟨rfl, ⟨r, n - 1, ⟨A, c, hR2, HN, hc, hr.only h3 (lt_ne hA), hA⟩, by omega, fun h => absurd h (by decide)⟩, h2.trans h3⟩

/-! ### number -/
def nK (k : Int) (S : List UInt8) : Int × Nat × List UInt8 := if k = 0 then readN S else (k, 0, [])
theorem from_at (l : List UInt8) (n : Nat) (A : Option Addr) (cap : Nat) (w : World) (HN : Hid (l.length = n)) (hr : Rd vB w A l) (hl : n ≤ 9223372036854775807) (v : Nat) (k : Int) (HF : Hid (fromR l = (v, k))) :
    Calls Tryd.prog 59 #[.slice A n cap] w fun e w' => e = .returned (.tuple #[.int .u64 (v : Int), .int .i64 k]) ∧ w = w' := by
  have e := HN.out
  subst e
  have := from_any l A cap w hr hl
  rw [HF.out] at this
  exact this
theorem number_bad (g n : Nat) (A : Option Addr) (c : Nat) (k : Int) (w : World) (hR : Row w g 73 [.slice A n c, .int .i64 k]) (hk : k ≠ 0) :
    Calls Tryd.prog 33 #[.pointer (some ⟨g, 0, none⟩)] w fun e₁ w' => e₁ = .returned (.int .u64 0) ∧ w = w' := by
  go_enter Tryd.func33, Tryd.ntmps33
  go_wp2_with fail
  refine (one_bad g n A c k w hR hk).mono ?_
  rintro e₁ w1 ⟨rfl, rfl⟩
  go_wp2_with fail
  refine (next_bad g n A c k 0 w hR hk).mono ?_
  rintro e₁ w1 ⟨rfl, rfl⟩
  go_wp2_with fail
  refine (from_at [] 0 none 0 w (Lib.hid rfl) Rd.nil (by omega) 0 0 (Lib.hid rfl)).mono ?_
  rintro e₁ w1 ⟨rfl, rfl⟩
  go_wp2_with fail
  refine (keep_bad g _ k 0 w hR hk).mono ?_
  rintro e₁ w1 ⟨rfl, rfl⟩
  go_wp2_with fail
  go_ret
  exact ⟨rfl, rfl⟩
theorem number_empty (g : Nat) (w : World) (h : RdS g [] 0 0 w) :
    Calls Tryd.prog 33 #[.pointer (some ⟨g, 0, none⟩)] w fun e₁ w' => e₁ = .returned (.int .u64 0) ∧ RdS g [] 0 2 w' ∧ Only g w w' := by
  go_enter Tryd.func33, Tryd.ntmps33
  go_wp2_with fail
  refine (one_short g w h).mono ?_
  rintro e₁ w1 ⟨rfl, h1, h2⟩
  obtain ⟨A, c, hR, _⟩ := id h1
  go_wp2_with fail
  refine (next_bad g 0 A c 2 0 w1 hR (by decide)).mono ?_
  rintro e₁ w2 ⟨rfl, rfl⟩
  go_wp2_with fail
  refine (from_at [] 0 none 0 w1 (Lib.hid rfl) Rd.nil (by omega) 0 0 (Lib.hid rfl)).mono ?_
  rintro e₁ w2 ⟨rfl, rfl⟩
  go_wp2_with fail
  refine (keep_bad g _ 2 0 w1 hR (by decide)).mono ?_
  rintro e₁ w2 ⟨rfl, rfl⟩
  go_wp2_with fail
  go_ret
  exact ⟨rfl, h1, h2⟩
theorem number_long (g : Nat) (y : UInt8) (r : List UInt8) (n : Nat) (w : World) (h : RdS g (y :: r) n 0 w) (hn : n ≤ 100000) (h8 : 8 < y.toNat) :
    Calls Tryd.prog 33 #[.pointer (some ⟨g, 0, none⟩)] w fun e₁ w' => e₁ = .returned (.int .u64 0) ∧ RdS g r (n - 1) 4 w' ∧ Only g w w' := by
  have hO := Lib.hid (one_ok g y r n w h hn)
  have hy := y.toNat_lt
  generalize y.toNat = m at h8 hO hy
  have m8 : (8 : Int) < (m : Int) := by omega
  have mw : IntKind.i64.wrap (m : Int) = (m : Int) := by rw [IntKind.wrap_i64]; omega
  go_enter Tryd.func33, Tryd.ntmps33
  go_wp2_with fail
  refine hO.out.mono ?_
  rintro e₁ w1 ⟨rfl, h1, h2⟩
  obtain ⟨A, c, hR, HN, hc, hr, hA⟩ := id h1
  go_wp2_with fail
  refine (keep_ok g _ 4 w1 hR).mono ?_
  rintro e₁ w2 ⟨rfl, hR2, h3⟩
  have h4 : RdS g r (n - 1) 4 w2 := ⟨A, c, hR2, HN, hc, hr.only h3 (lt_ne hA), hA⟩
  go_wp2_with fail
  refine (next_bad g _ A c 4 (m : Int) w2 hR2 (by decide)).mono ?_
  rintro e₁ w3 ⟨rfl, rfl⟩
  go_wp2_with fail
  refine (from_at [] 0 none 0 w2 (Lib.hid rfl) Rd.nil (by omega) 0 0 (Lib.hid rfl)).mono ?_
  rintro e₁ w3 ⟨rfl, rfl⟩
  go_wp2_with fail
  refine (keep_bad g _ 4 0 w2 hR2 (by decide)).mono ?_
  rintro e₁ w3 ⟨rfl, rfl⟩
  go_wp2_with fail
  go_ret
  exact ⟨rfl, h4, h2.trans h3⟩
theorem number_short (g : Nat) (y : UInt8) (r : List UInt8) (n : Nat) (w : World) (h : RdS g (y :: r) n 0 w) (hn : n ≤ 100000) (h8 : ¬ 8 < y.toNat) (hs : n - 1 < y.toNat) :
    Calls Tryd.prog 33 #[.pointer (some ⟨g, 0, none⟩)] w fun e₁ w' => e₁ = .returned (.int .u64 0) ∧ RdS g r (n - 1) 2 w' ∧ Only g w w' := by
  have hO := Lib.hid (one_ok g y r n w h hn)
  have hy := y.toNat_lt
  generalize y.toNat = m at h8 hs hO hy
  have m8 : ¬ (8 : Int) < (m : Int) := by omega
  have mw : IntKind.i64.wrap (m : Int) = (m : Int) := by rw [IntKind.wrap_i64]; omega
  go_enter Tryd.func33, Tryd.ntmps33
  go_wp2_with fail
  refine hO.out.mono ?_
  rintro e₁ w1 ⟨rfl, h1, h2⟩
  go_wp2_with fail
  refine (next_short g r (n - 1) m w1 h1 hs).mono ?_
  rintro e₁ w2 ⟨rfl, h4, h3⟩
  obtain ⟨A, c, hR2, _⟩ := id h4
  go_wp2_with fail
  refine (from_at [] 0 none 0 w2 (Lib.hid rfl) Rd.nil (by omega) 0 0 (Lib.hid rfl)).mono ?_
  rintro e₁ w3 ⟨rfl, rfl⟩
  go_wp2_with fail
  refine (keep_bad g _ 2 0 w2 hR2 (by decide)).mono ?_
  rintro e₁ w3 ⟨rfl, rfl⟩
  go_wp2_with fail
  go_ret
  exact ⟨rfl, h4, h2.trans h3⟩
theorem number_ok (g : Nat) (y : UInt8) (r : List UInt8) (n : Nat) (w : World) (h : RdS g (y :: r) n 0 w) (hn : n ≤ 100000) (h8 : ¬ 8 < y.toNat) (hs : ¬ n - 1 < y.toNat) (v : Nat) (k : Int) (HF : Hid (fromR (r.take y.toNat) = (v, k))) :
    Calls Tryd.prog 33 #[.pointer (some ⟨g, 0, none⟩)] w fun e₁ w' => e₁ = .returned (.int .u64 (v : Int)) ∧ RdS g (r.drop y.toNat) (n - 1 - y.toNat) k w' ∧ Only g w w' := by
  have hO := Lib.hid (one_ok g y r n w h hn)
  have hrl : r.length = n - 1 := by
    obtain ⟨_, _, _, HN, _⟩ := h
    have := HN.out
    rw [List.length_cons] at this
    omega
  have hy := y.toNat_lt
  generalize y.toNat = m at h8 hs hO hy HF ⊢
  have m8 : ¬ (8 : Int) < (m : Int) := by omega
  have mw : IntKind.i64.wrap (m : Int) = (m : Int) := by rw [IntKind.wrap_i64]; omega
  have HL : Hid ((r.take m).length = m) := by unfold Hid; rw [List.length_take]; omega
  clear hrl
  go_enter Tryd.func33, Tryd.ntmps33
  go_wp2_with fail
  refine hO.out.mono ?_
  rintro e₁ w1 ⟨rfl, h1, h2⟩
  go_wp2_with fail
  refine (next_ok g r (n - 1) m w1 h1 (by omega) (by omega)).mono ?_
  rintro e₁ w2 ⟨A2, c2, rfl, hr2, h4, h3⟩
  obtain ⟨A, c, hR2, HN, hc, hr, hA⟩ := id h4
  go_wp2_with fail
  refine (from_at (r.take m) m A2 c2 w2 HL hr2 (by omega) v k HF).mono ?_
  rintro e₁ w3 ⟨rfl, rfl⟩
  go_wp2_with fail
  refine (keep_ok g _ k w2 hR2).mono ?_
  rintro e₁ w3 ⟨rfl, hR3, h5⟩
  have h6 : RdS g (r.drop m) (n - 1 - m) k w3 := ⟨A, c, hR3, HN, hc, hr.only h5 (lt_ne hA), hA⟩
  go_wp2_with fail
  go_ret
  exact ⟨rfl, h6, (h2.trans h3).trans h5⟩
theorem number_any (g : Nat) (k : Int) (S : List UInt8) (w : World) (h : RdT g k S w) :
    Calls Tryd.prog 33 #[.pointer (some ⟨g, 0, none⟩)] w fun e₁ w' => e₁ = .returned (.int .u64 ((nK k S).2.1 : Int)) ∧ RdT g (nK k S).1 (nK k S).2.2 w' ∧ Only g w w' := by
  obtain ⟨S', n, h1, hn, h2⟩ := h
  unfold nK
  by_cases hk : k = 0
  · rw [if_pos hk]
    have e := h2 hk
    subst e hk
    cases S' with
    | nil =>
      have en : n = 0 := by
        obtain ⟨_, _, _, HN, _⟩ := h1
        exact HN.out.symm
      subst en
      refine (number_empty g w h1).mono ?_
      rintro e₁ w' ⟨rfl, h3, h4⟩
      exact ⟨rfl, ⟨[], 0, h3, by omega, fun h => absurd h (by decide)⟩, h4⟩
    | cons y r =>
      have hrl : r.length = n - 1 := by
        obtain ⟨_, _, _, HN, _⟩ := h1
        have := HN.out
        rw [List.length_cons] at this
        omega
      rw [readN_cons]
      by_cases h8 : 8 < y.toNat
      · rw [if_pos h8]
        refine (number_long g y r n w h1 hn h8).mono ?_
        rintro e₁ w' ⟨rfl, h3, h4⟩
        exact ⟨rfl, ⟨r, n - 1, h3, by omega, fun h => absurd h (by decide)⟩, h4⟩
      · rw [if_neg h8]
        by_cases hs : r.length < y.toNat
        · rw [if_pos hs]
          refine (number_short g y r n w h1 hn h8 (by omega)).mono ?_
          rintro e₁ w' ⟨rfl, h3, h4⟩
          exact ⟨rfl, ⟨r, n - 1, h3, by omega, fun h => absurd h (by decide)⟩, h4⟩
        · rw [if_neg hs]
          have hl8 : ¬ 8 < (r.take y.toNat).length := by rw [List.length_take]; omega
          by_cases h0 : 0 < y.toNat ∧ r.head? = some 0
          · rw [if_pos h0]
            have hf : fromR (r.take y.toNat) = (0, 3) := by
              unfold fromR
              rw [if_neg hl8, if_pos (by rw [List.head?_take, if_neg (by omega)]; exact h0.2)]
            refine (number_ok g y r n w h1 hn h8 (by omega) 0 3 hf).mono ?_
            rintro e₁ w' ⟨rfl, h3, h4⟩
            exact ⟨rfl, ⟨_, _, h3, by omega, fun h => absurd h (by decide)⟩, h4⟩
          · rw [if_neg h0]
            have hf : fromR (r.take y.toNat) = (valN (r.take y.toNat), 0) := by
              unfold fromR
              rw [if_neg hl8, if_neg]
              intro hh
              rcases Nat.eq_zero_or_pos y.toNat with hz | hp
              · rw [hz, List.take_zero] at hh
                simp at hh
              · rw [List.head?_take, if_neg (by omega)] at hh
                exact h0 ⟨hp, hh⟩
            refine (number_ok g y r n w h1 hn h8 (by omega) _ 0 hf).mono ?_
            rintro e₁ w' ⟨rfl, h3, h4⟩
            exact ⟨rfl, ⟨_, _, h3, by omega, fun _ => rfl⟩, h4⟩
  · rw [if_neg hk]
    obtain ⟨A, c, hR, _⟩ := id h1
    refine (number_bad g n A c k w hR hk).mono ?_
    rintro e₁ w' ⟨rfl, rfl⟩
    exact ⟨rfl, ⟨S', n, h1, hn, fun h => absurd h hk⟩, Only.refl g w⟩

/-! ### end -/
def endK (k : Int) (S : List UInt8) : Int := if k = 0 ∧ S ≠ [] then 4 else k
theorem end_any (g : Nat) (k : Int) (S : List UInt8) (w : World) (h : RdT g k S w) :
    Calls Tryd.prog 35 #[.pointer (some ⟨g, 0, none⟩)] w fun e₁ w' => e₁ = .returned (.tuple #[]) ∧ (∃ v, Row w' g 73 [v, .int .i64 (endK k S)]) ∧ Only g w w' := by
  obtain ⟨S', n, h1, hn, h2⟩ := h
  obtain ⟨A, c, hR, HN, hc, hr, hA⟩ := h1
  have c0 : w.cell? ⟨g, 0, none⟩ = some (.slice A n c) := hR.cell rfl
  by_cases h0 : n = 0
  · have hE : endK k S = k := by
      unfold endK
      rw [if_neg]
      rintro ⟨h3, h4⟩
      rw [← h2 h3] at h4
      exact h4 (List.eq_nil_of_length_eq_zero (HN.out.trans h0))
    rw [hE]
    have i0 : ¬ (0 : Int) < (n : Int) := by omega
    clear h0
    go_enter Tryd.func35, Tryd.ntmps35
    go_wp2_with fail
    first | go_end0 | refine bodyPost_ret (results_none rfl _ _ _) rfl ?_
    exact ⟨rfl, ⟨_, hR⟩, Only.refl g w⟩
  · have i0 : (0 : Int) < (n : Int) := by omega
    by_cases hk : k = 0
    · subst hk
      have hE : endK 0 S = 4 := by
        unfold endK
        rw [if_pos]
        refine ⟨rfl, fun h4 => h0 ?_⟩
        rw [← HN.out, h2 rfl, h4]
        rfl
      rw [hE]
      clear h0
      go_enter Tryd.func35, Tryd.ntmps35
      go_wp2_with fail
      refine (keep_ok g _ 4 w hR).mono ?_
      rintro e₁ w1 ⟨rfl, hR1, h3⟩
      go_wp2_with fail
      first | go_end0 | refine bodyPost_ret (results_none rfl _ _ _) rfl ?_
      exact ⟨rfl, ⟨_, hR1⟩, h3⟩
    · have hE : endK k S = k := if_neg (fun h => hk h.1)
      rw [hE]
      clear h0
      go_enter Tryd.func35, Tryd.ntmps35
      go_wp2_with fail
      refine (keep_bad g _ k 4 w hR hk).mono ?_
      rintro e₁ w1 ⟨rfl, rfl⟩
      go_wp2_with fail
      first | go_end0 | refine bodyPost_ret (results_none rfl _ _ _) rfl ?_
      exact ⟨rfl, ⟨_, hR⟩, Only.refl g w⟩

/-! ### the Tag's bytes -/
def tagK (k : Int) (S : List UInt8) : Int × List UInt8 := if k = 0 then if S.length < 8 then (2, []) else (0, S.take 8) else (k, [])
theorem tag_any (g : Nat) (k : Int) (S : List UInt8) (w : World) (h : RdT g k S w) :
    Calls Tryd.prog 34 #[.pointer (some ⟨g, 0, none⟩), .int .i64 8] w fun e₁ w' => (∃ A n c, e₁ = .returned (.slice A n c) ∧ Hid ((tagK k S).2.length = n) ∧ n ≤ 8 ∧ Rd vB w' A (tagK k S).2) ∧ RdT g (tagK k S).1 (S.drop 8) w' ∧ Only g w w' := by
  obtain ⟨S', n, h1, hn, h2⟩ := h
  unfold tagK
  by_cases hk : k = 0
  · have e := h2 hk
    subst e hk
    rw [if_pos rfl]
    obtain ⟨A, c, hR, HN, hc, hr, hA⟩ := id h1
    by_cases h8 : n < 8
    · rw [if_pos (by rw [HN.out]; exact h8)]
      refine (next_short g S' n 8 w h1 h8).mono ?_
      rintro e₁ w1 ⟨rfl, h3, h4⟩
      exact ⟨⟨none, 0, 0, rfl, Lib.hid rfl, by omega, Rd.nil⟩, ⟨S', n, h3, hn, fun h => absurd h (by decide)⟩, h4⟩
    · rw [if_neg (by rw [HN.out]; exact h8)]
      refine (next_ok g S' n 8 w h1 (by omega) hn).mono ?_
      rintro e₁ w1 ⟨A1, c1, rfl, hr1, h3, h4⟩
      exact ⟨⟨A1, 8, c1, rfl, by unfold Hid; rw [List.length_take, HN.out]; omega, by omega, hr1⟩, ⟨_, _, h3, by omega, fun _ => rfl⟩, h4⟩
  · rw [if_neg hk]
    obtain ⟨A, c, hR, _⟩ := id h1
    refine (next_bad g n A c k 8 w hR hk).mono ?_
    rintro e₁ w' ⟨rfl, rfl⟩
    exact ⟨⟨none, 0, 0, rfl, Lib.hid rfl, by omega, Rd.nil⟩, ⟨S', n, h1, hn, fun h => absurd h hk⟩, Only.refl g w⟩

/-! ### the whole -/
theorem endK_bad {k : Int} (S : List UInt8) (h : k ≠ 0) : endK k S = k := if_neg (fun e => h e.1)
theorem nK_bad {k : Int} (S : List UInt8) (h : k ≠ 0) : nK k S = (k, 0, []) := if_neg h
theorem tagK_bad {k : Int} (S : List UInt8) (h : k ≠ 0) : tagK k S = (k, []) := if_neg h
/-- Step by step it is readF: its code; and all of it, where nothing is wrong. -/
theorem steps_read {b : List UInt8} {k0 k1 k2 k3 k4 : Int} {S0 S1 S2 S3 T : List UInt8} {t e c : Nat} (h0 : markK b = (k0, S0)) (h1 : nK k0 S0 = (k1, t, S1)) (h2 : nK k1 S1 = (k2, e, S2)) (h3 : nK k2 S2 = (k3, c, S3)) (h4 : tagK k3 S3 = (k4, T)) :
    readF b = if endK k4 (S3.drop 8) = 0 then (0, t, e, c, T) else (endK k4 (S3.drop 8), 0, 0, 0, []) := by
  have bad : ∀ {k : Int} {S : List UInt8}, k ≠ 0 → (if endK k S = 0 then ((0 : Int), t, e, c, T) else (endK k S, 0, 0, 0, [])) = (k, 0, 0, 0, []) := fun {k S} h => by rw [endK_bad S h, if_neg h]
  have b4 : k3 ≠ 0 → k4 = k3 := fun h => by rw [tagK_bad _ h] at h4; exact (congrArg Prod.fst h4).symm
  have b3 : k2 ≠ 0 → k3 = k2 := fun h => by rw [nK_bad _ h] at h3; exact (congrArg Prod.fst h3).symm
  have b2 : k1 ≠ 0 → k2 = k1 := fun h => by rw [nK_bad _ h] at h2; exact (congrArg Prod.fst h2).symm
  have b1 : k0 ≠ 0 → k1 = k0 := fun h => by rw [nK_bad _ h] at h1; exact (congrArg Prod.fst h1).symm
  by_cases z0 : k0 = 0
  · subst z0
    cases b with
    | nil => simp [markK] at h0
    | cons x r =>
      have e0 : x = 87 ∧ r = S0 := by
        unfold markK at h0
        dsimp only at h0
        split at h0
        · simp at h0
        · rename_i hx
          exact ⟨Classical.byContradiction hx, congrArg Prod.snd h0⟩
      obtain ⟨rfl, rfl⟩ := e0
      rw [readF_cons, if_neg (by simp)]
      unfold nK at h1
      rw [if_pos rfl] at h1
      unfold readB
      rw [h1]
      by_cases z1 : k1 = 0
      · subst z1
        rw [if_pos rfl]
        unfold nK at h2
        rw [if_pos rfl] at h2
        unfold readE
        dsimp only
        rw [h2]
        by_cases z2 : k2 = 0
        · subst z2
          rw [if_pos rfl]
          unfold nK at h3
          rw [if_pos rfl] at h3
          unfold readC
          dsimp only
          rw [h3]
          by_cases z3 : k3 = 0
          · subst z3
            rw [if_pos rfl]
            unfold tagK at h4
            rw [if_pos rfl] at h4
            unfold readT
            dsimp only
            by_cases h8 : S3.length < 8
            · rw [if_pos h8] at h4 ⊢
              have ek : k4 = 2 := (congrArg Prod.fst h4).symm
              rw [ek, bad (by decide)]
            · rw [if_neg h8] at h4 ⊢
              have ek : k4 = 0 := (congrArg Prod.fst h4).symm
              have eT : T = S3.take 8 := (congrArg Prod.snd h4).symm
              rw [ek, eT]
              by_cases h9 : 8 < S3.length
              · rw [if_pos h9]
                have hE : endK 0 (S3.drop 8) = 4 := if_pos ⟨rfl, fun h => by have := congrArg List.length h; rw [List.length_drop, List.length_nil] at this; omega⟩
                rw [hE, if_neg (by decide)]
              · rw [if_neg h9]
                have hE : endK 0 (S3.drop 8) = 0 := if_neg (fun h => h.2 (List.drop_of_length_le (by omega)))
                rw [hE, if_pos rfl, List.take_of_length_le (by omega)]
          · rw [if_neg z3]
            rw [b4 z3, bad z3]
        · rw [if_neg z2]
          have e3 := b3 z2
          rw [b4 (by rw [e3]; exact z2), e3, bad z2]
      · rw [if_neg z1]
        have e2 := b2 z1
        have e3 := b3 (by rw [e2]; exact z1)
        rw [e2] at e3
        rw [b4 (by rw [e3]; exact z1), e3, bad z1]
  · have e1 := b1 z0
    have e2 := b2 (by rw [e1]; exact z0)
    rw [e1] at e2
    have e3 := b3 (by rw [e2]; exact z0)
    rw [e2] at e3
    rw [b4 (by rw [e3]; exact z0), e3, bad z0]
    cases b with
    | nil =>
      have e : (2 : Int) = k0 := congrArg Prod.fst h0
      rw [← e]
      rfl
    | cons x r =>
      rw [readF_cons]
      unfold markK at h0
      dsimp only at h0
      split at h0
      · rename_i hx
        rw [if_pos hx]
        have e : (3 : Int) = k0 := congrArg Prod.fst h0
        rw [← e]
      · exact absurd (congrArg Prod.fst h0).symm z0
end Go.Proofs.YtcnjackbiimjdaaDoor
/-
  What the program's calls of layer 12 answer, over the landed code (rightP_any, writeP_ok, writeP_no, msgP_any: XFrameWr). No conditions but those typed.
-/
namespace Go.Proofs.YtcnjackbiimjdaaDoor
set_option maxRecDepth 100000
open Go.RowKit
set_option linter.unusedSimpArgs false
set_option linter.unusedVariables false

theorem size_rd : (Tryd.prog.info? 73).map (·.size) = some 2 := by kernel_rfl
theorem one_two (a b : Value) (ha : a.oneCell' = true) (hb : b.oneCell' = true) : ∀ v ∈ [a, b], v.oneCell' = true := fun v hv => by
  simp at hv
  rcases hv with rfl | rfl <;> assumption
theorem cloneF (n : Nat) (b : List UInt8) (A : Option Addr) (c : Nat) (w : World) (HN : Hid (b.length = n)) (hr : Rd vB w A b) (hl : n ≤ 70368744177664) :
    Calls Tryd.prog 26 #[.slice A n c] w fun e w' => ∃ A' c', e = .returned (.slice A' n c') ∧ n ≤ c' ∧ Rd vB w' A' b ∧ (∀ a, A' = some a → w.heap.size ≤ a.block) ∧ Below w.heap.size w w' := by
  have e := HN.out
  subst e
  exact (clone_b b A c w hr hl).mono fun _ _ h => h
def codeP (g : Nat) (k : Int) (W : World) : Prop := W.cell? ⟨g, 1, none⟩ = some (.int .i64 k) ∧ True

set_option maxRecDepth 100000 in
set_option maxHeartbeats 4000000 in
theorem readP_any (b : List UInt8) (n : Nat) (A : Option Addr) (c : Nat) (w : World) (HN : Hid (b.length = n)) (hr : Rd vB w A b) (hc : n ≤ c) (hn : n ≤ 100000) :
    Calls Tryd.prog 17 #[.slice A n c] w (RetPay w (readF b)) := by
  obtain ⟨k0, S0, H0⟩ : ∃ k S, markK b = (k, S) := ⟨_, _, rfl⟩
  obtain ⟨k1, x1, S1, H1⟩ : ∃ k x S, nK k0 S0 = (k, x, S) := ⟨_, _, _, rfl⟩
  obtain ⟨k2, x2, S2, H2⟩ : ∃ k x S, nK k1 S1 = (k, x, S) := ⟨_, _, _, rfl⟩
  obtain ⟨k3, x3, S3, H3⟩ : ∃ k x S, nK k2 S2 = (k, x, S) := ⟨_, _, _, rfl⟩
  obtain ⟨k4, T, H4⟩ : ∃ k S, tagK k3 S3 = (k, S) := ⟨_, _, rfl⟩
  have HF := steps_read H0 H1 H2 H3 H4
  obtain ⟨k5, H5⟩ : ∃ k, endK k4 (S3.drop 8) = k := ⟨_, rfl⟩
  rw [H5] at HF
  obtain ⟨F, hF⟩ : ∃ F, readF b = F := ⟨_, rfl⟩
  rw [hF] at HF ⊢
  clear hF
  replace HF := Lib.hid HF
  replace H0 := Lib.hid H0
  replace H1 := Lib.hid H1
  replace H2 := Lib.hid H2
  replace H3 := Lib.hid H3
  replace H4 := Lib.hid H4
  replace H5 := Lib.hid H5
  obtain ⟨hR0, hB0⟩ := box_pay w 25 (.int .u64 0) (.int .u64 0) (.int .u64 0) (.slice none 0 0)
  go_enter Tryd.func17, Tryd.ntmps17
  go_upto_region 1 with fail
  generalize (w.alloc (.cells #[.int .u64 0, .int .u64 0, .int .u64 0, .slice none 0 0] 25)) = W0 at hR0 hB0 ⊢
  have hgl := hR0.lt
  have hRr : Row (W0.alloc (.cells #[.slice none 0 0, .int .i64 0] 73)) W0.heap.size 73 [.slice none 0 0, .int .i64 0] := Row.new W0 _ _ _ rfl
  go_upto_region 2 with (refine wpList_store_row rfl 73 (.tmp 4) (.tmp 7) rfl W0.heap.size rfl [.slice A n c, .int .i64 0] rfl _ _ hRr (by exact size_rd) rfl (one_two _ _ rfl rfl) ?_)
  have hRs := hRr.setRow [.slice A n c, .int .i64 0]
  have hb2 : Below W0.heap.size W0 ((W0.alloc (.cells #[.slice none 0 0, .int .i64 0] 73)).setRow W0.heap.size [.slice A n c, .int .i64 0].toArray) := below_setRow (below_new (Below.refl _ _) _) (Nat.le_refl _) _
  replace hr := (hr.keep hB0)
  have hA : b ≠ [] → ∀ a, A = some a → a.block < W0.heap.size := hr.off
  replace hr := hr.keep hb2
  replace hR0 := hR0.later hb2
  replace hB0 := below_step hB0 hb2
  generalize (W0.alloc (.cells #[.slice none 0 0, .int .i64 0] 73)).setRow W0.heap.size [.slice A n c, .int .i64 0].toArray = W1 at hr hR0 hRs hB0 ⊢
  clear hRr hb2
  generalize W0.heap.size = g1 at hgl hRs hA ⊢
  have hS : RdS g1 b n 0 W1 := ⟨A, c, hRs, HN, hc, hr, hA⟩
  clear hRs hr hA
  have hle : w.heap.size ≤ g1 := by omega
  have hne : w.heap.size ≠ g1 := by omega
  go_wp2_with fail
  refine (mark_any g1 b n W1 hS hn).mono ?_
  rw [H0.out]
  rintro e₁ w2 ⟨rfl, hT, hO⟩
  dsimp only at hT
  replace hR0 := hR0.only hO hne
  replace hB0 := hB0.trans (hO.below.mono hle)
  clear hO hS
  have hg1 := hT.lt
  have hRq : Row (w2.alloc (.cells #[.int .u64 0, .int .u64 0, .int .u64 0, .slice none 0 0] 25)) w2.heap.size 25 [.int .u64 0, .int .u64 0, .int .u64 0, .slice none 0 0] := Row.new w2 _ _ _ rfl
  have hbn := below_new (Below.refl w2.heap.size w2) (.cells #[.int .u64 0, .int .u64 0, .int .u64 0, .slice none 0 0] 25)
  replace hT := hT.below (hbn.mono (by omega))
  replace hR0 := hR0.later hbn
  replace hB0 := below_step hB0 hbn
  go_upto_region 4 with fail
  generalize w2.alloc (.cells #[.int .u64 0, .int .u64 0, .int .u64 0, .slice none 0 0] 25) = W3 at hT hR0 hB0 hRq ⊢
  clear hbn
  generalize w2.heap.size = g2 at hg1 hRq ⊢
  have hn2 : g2 ≠ g1 := by omega
  have hn3 : g2 ≠ w.heap.size := by omega
  have hn4 : w.heap.size ≠ g2 := by omega
  have hl2 : w.heap.size ≤ g2 := by omega
  go_wp2_with fail
  refine (number_any g1 k0 S0 W3 hT).mono ?_
  rw [H1.out]
  rintro e₁ w4 ⟨rfl, hT4, hO⟩
  dsimp only at hT4 ⊢
  replace hR0 := hR0.only hO hne
  replace hRq := hRq.only hO hn2
  replace hB0 := hB0.trans (hO.below.mono hle)
  clear hO hT
  have f0 := hRq.frozen 0
  have hT5 := hT4.below ((Below.refl _ w4).setCell (p := ⟨g2, 0, none⟩) (show g1 + 1 ≤ g2 by omega) (.int .u64 (x1 : Int)))
  have hR5 := hR0.setCell_other (p := ⟨g2, 0, none⟩) hn4 (.int .u64 (x1 : Int))
  have hRq5 := hRq.setCell 0 (.int .u64 (x1 : Int))
  have hB5 := hB0.setCell (p := ⟨g2, 0, none⟩) hl2 (.int .u64 (x1 : Int))
  have c0 : w4.cell? ⟨g2, 0, none⟩ = some (.int .u64 0) := hRq.cell rfl
  clear hT4 hR0 hRq hB0
  have hQ5 : Row (w4.setCell ⟨g2, 0, none⟩ (.int .u64 (x1 : Int))) g2 25 [.int .u64 (x1 : Int), .int .u64 0, .int .u64 0, .slice none 0 0] := hRq5
  go_upto_region 5 with fail
  generalize w4.setCell ⟨g2, 0, none⟩ (.int .u64 (x1 : Int)) = W5 at hT5 hR5 hQ5 hB5 ⊢
  clear hRq5 c0 f0
  go_wp2_with fail
  refine (number_any g1 k1 S1 W5 hT5).mono ?_
  rw [H2.out]
  rintro e₁ w6 ⟨rfl, hT6, hO⟩
  dsimp only at hT6 ⊢
  have hR6 := hR5.only hO hne
  have hQ6 := hQ5.only hO hn2
  have hB6 := hB5.trans (hO.below.mono hle)
  clear hO hT5 hR5 hQ5 hB5
  have f0 := hQ6.frozen 1
  have hT7 := hT6.below ((Below.refl _ w6).setCell (p := ⟨g2, 1, none⟩) (show g1 + 1 ≤ g2 by omega) (.int .u64 (x2 : Int)))
  have hR7 := hR6.setCell_other (p := ⟨g2, 1, none⟩) hn4 (.int .u64 (x2 : Int))
  have hQ7 : Row (w6.setCell ⟨g2, 1, none⟩ (.int .u64 (x2 : Int))) g2 25 [.int .u64 (x1 : Int), .int .u64 (x2 : Int), .int .u64 0, .slice none 0 0] := hQ6.setCell 1 (.int .u64 (x2 : Int))
  have hB7 := hB6.setCell (p := ⟨g2, 1, none⟩) hl2 (.int .u64 (x2 : Int))
  have c0 : w6.cell? ⟨g2, 1, none⟩ = some (.int .u64 0) := hQ6.cell rfl
  clear hT6 hR6 hQ6 hB6
  go_upto_region 6 with fail
  generalize w6.setCell ⟨g2, 1, none⟩ (.int .u64 (x2 : Int)) = W7 at hT7 hR7 hQ7 hB7 ⊢
  clear c0 f0
  go_wp2_with fail
  refine (number_any g1 k2 S2 W7 hT7).mono ?_
  rw [H3.out]
  rintro e₁ w8 ⟨rfl, hT8, hO⟩
  dsimp only at hT8 ⊢
  have hR8 := hR7.only hO hne
  have hQ8 := hQ7.only hO hn2
  have hB8 := hB7.trans (hO.below.mono hle)
  clear hO hT7 hR7 hQ7 hB7
  have f0 := hQ8.frozen 2
  have hT9 := hT8.below ((Below.refl _ w8).setCell (p := ⟨g2, 2, none⟩) (show g1 + 1 ≤ g2 by omega) (.int .u64 (x3 : Int)))
  have hR9 := hR8.setCell_other (p := ⟨g2, 2, none⟩) hn4 (.int .u64 (x3 : Int))
  have hQ9 : Row (w8.setCell ⟨g2, 2, none⟩ (.int .u64 (x3 : Int))) g2 25 [.int .u64 (x1 : Int), .int .u64 (x2 : Int), .int .u64 (x3 : Int), .slice none 0 0] := hQ8.setCell 2 (.int .u64 (x3 : Int))
  have hB9 := hB8.setCell (p := ⟨g2, 2, none⟩) hl2 (.int .u64 (x3 : Int))
  have c0 : w8.cell? ⟨g2, 2, none⟩ = some (.int .u64 0) := hQ8.cell rfl
  clear hT8 hR8 hQ8 hB8
  go_upto_region 7 with fail
  generalize w8.setCell ⟨g2, 2, none⟩ (.int .u64 (x3 : Int)) = W9 at hT9 hR9 hQ9 hB9 ⊢
  clear c0 f0
  go_wp2_with fail
  refine (tag_any g1 k3 S3 W9 hT9).mono ?_
  rw [H4.out]
  rintro e₁ w10 ⟨⟨A10, n10, c10, rfl, HN10, hn10, hr10⟩, hT10, hO⟩
  dsimp only at hT10 HN10 hr10 ⊢
  have hR10 := hR9.only hO hne
  have hQ10 := hQ9.only hO hn2
  have hB10 := hB9.trans (hO.below.mono hle)
  have hg10 := hQ10.lt
  clear hO hT9 hR9 hQ9 hB9
  go_wp2_with fail
  refine (cloneF n10 T A10 c10 w10 HN10 hr10 (by omega)).mono ?_
  rintro e₁ w11 ⟨A11, c11, rfl, hc11, hr11, hA11, hb⟩
  have hT11 := hT10.below (hb.mono (by omega))
  have hR11 := hR10.later hb
  have hQ11 := hQ10.later hb
  have hB11 := below_step hB10 hb
  have HA11 : Hid (∀ a, A11 = some a → g2 < a.block) := fun a ha => Nat.lt_of_lt_of_le hg10 (hA11 a ha)
  clear hb hT10 hR10 hQ10 hB10 hr10 hA11
  have f0 := hQ11.frozen 3
  have hT12 := hT11.below ((Below.refl _ w11).setCell (p := ⟨g2, 3, none⟩) (show g1 + 1 ≤ g2 by omega) (.slice A11 n10 c11))
  have hR12 := hR11.setCell_other (p := ⟨g2, 3, none⟩) hn4 (.slice A11 n10 c11)
  have hQ12 : Row (w11.setCell ⟨g2, 3, none⟩ (.slice A11 n10 c11)) g2 25 [.int .u64 (x1 : Int), .int .u64 (x2 : Int), .int .u64 (x3 : Int), .slice A11 n10 c11] := hQ11.setCell 3 (.slice A11 n10 c11)
  have hB12 := hB11.setCell (p := ⟨g2, 3, none⟩) hl2 (.slice A11 n10 c11)
  have hr12 := hr11.only ((Only.refl g2 w11).setCell 3 (.slice A11 n10 c11)) (fun _ a ha => by have := HA11.out a ha; omega)
  have c0 : w11.cell? ⟨g2, 3, none⟩ = some (.slice none 0 0) := hQ11.cell rfl
  clear hT11 hR11 hQ11 hB11 hr11
  go_upto_region 8 with fail
  generalize w11.setCell ⟨g2, 3, none⟩ (.slice A11 n10 c11) = W12 at hT12 hR12 hQ12 hB12 hr12 ⊢
  clear c0 f0
  go_wp2_with fail
  refine (end_any g1 k4 (S3.drop 8) W12 hT12).mono ?_
  rw [H5.out]
  rintro e₁ w13 ⟨rfl, ⟨v13, hRd⟩, hO⟩
  have hR13 := hR12.only hO hne
  have hQ13 := hQ12.only hO hn2
  have hB13 := hB12.trans (hO.below.mono hle)
  have hr13 := hr12.only hO (fun _ a ha => by have := HA11.out a ha; omega)
  have cd : w13.cell? ⟨g1, 1, none⟩ = some (.int .i64 k5) := hRd.cell rfl
  clear hO hT12 hR12 hQ12 hB12 hr12
  go_upto_region 9 with fail
  by_cases h5 : k5 = 0
  · subst h5
    have eF : (0, x1, x2, x3, T) = F := by rw [HF.out, if_pos rfl]
    subst eF
    go_wp2_with (first
      | (refine wpList_load_part rfl 25 (.tmp 5) rfl g2 0 rfl _ _ hQ13 [.int .u64 (x1 : Int), .int .u64 (x2 : Int), .int .u64 (x3 : Int), .slice A11 n10 c11] (by rfl) _ Tryd.underlying25 rfl (by exact size_pay') ?_)
      | (refine wpList_store_row rfl 25 (.tmp 2) (.tmp 25) rfl w.heap.size rfl [.int .u64 (x1 : Int), .int .u64 (x2 : Int), .int .u64 (x3 : Int), .slice A11 n10 c11] rfl _ _ hR13 (by exact size_pay') rfl (one_four _ _ _ _ rfl rfl rfl rfl) ?_))
    refine bodyPost_ret (results_row_tmp (p := 2) (u := 3) (ty := 25) (by rfl) _ _ w.heap.size 25 _ _ (by rfl) (by exact hR13.setRow _) Tryd.underlying25 (by rfl) (by exact size_pay')) (by rfl) ?_
    exact ⟨A11, n10, c11, rfl, HN10, hc11, hr13.setRow _ (fun a ha => by have := HA11.out a ha; omega), below_setRow hB13 (Nat.le_refl _) _⟩
  · have h50 : (k5 == 0) = false := beq_eq_false_iff_ne.2 h5
    have h51 : (k5 != 0) = true := by rw [bne, h50]; rfl
    have eF : (k5, 0, 0, 0, []) = F := by rw [HF.out, if_neg h5]
    subst eF
    go_upto_region 10 with fail
    have hS : codeP g1 k5 w13.drew := ⟨cd, trivial⟩
    have hR14 := hR13.drew
    have hB14 := hB13.drew
    refine wp_region_plan_of (codeP g1 k5) (.step 0 false (.step 1 false (.step 2 false (.step 3 true (.step 4 false (.nil)))))) hS (by kernel_rfl) (by kernel_rfl) (by rfl) (by kernel_rfl) ?_
    clear hR13 hB13 cd hQ13 hr13 hRd
    generalize w13.drew = wv at *
    iterate 3 (refine plan_read rfl (by rfl) (v := ?_) ?_ ?_; rotate_left 1; (intro W hW; (try dsimp only at hW); obtain ⟨hW0, hW1⟩ := hW; go_simp <;> with_reducible rfl); simp only [List.getElem_toArray, List.getElem_cons_zero, List.getElem_cons_succ, Act.put, List.setIfInBounds_toArray, List.set_cons_zero, List.set_cons_succ])
    have hcs : ∀ (cs : Array Value), (wv.setRow w.heap.size cs).cell? ⟨g1, 1, none⟩ = wv.cell? ⟨g1, 1, none⟩ := fun cs => cell_setRow_other wv w.heap.size cs ⟨g1, 1, none⟩ (show g1 ≠ w.heap.size by omega)
    refine plan_make_of rfl (by rfl) (fun K hK => ?_)
    refine hR14.wp_store 25 (.tmp 2) (.tmp 22) rfl rfl [.int .u64 0, .int .u64 0, .int .u64 0, .slice none 0 0] rfl (by exact size_pay') rfl (one_four _ _ _ _ rfl rfl rfl rfl) ?_
    refine hK.out _ _ ⟨(hcs _).trans hS.1, trivial⟩ ?_
    clear hK K hcs
    simp only [List.getElem_toArray, List.getElem_cons_zero, List.getElem_cons_succ, Act.put, List.setIfInBounds_toArray, List.set_cons_zero, List.set_cons_succ]
    iterate 1 (refine plan_read rfl (by rfl) (v := ?_) ?_ ?_; rotate_left 1; (intro W hW; (try dsimp only at hW); obtain ⟨hW0, hW1⟩ := hW; go_simp <;> with_reducible rfl); simp only [List.getElem_toArray, List.getElem_cons_zero, List.getElem_cons_succ, Act.put, List.setIfInBounds_toArray, List.set_cons_zero, List.set_cons_succ])
    refine plan_done ?_
    go_wp2_with fail
    refine bodyPost_ret (results_row_tmp (p := 2) (u := 3) (ty := 25) (by rfl) _ _ w.heap.size 25 _ _ (by rfl) (by exact hR14.setRow _) Tryd.underlying25 (by rfl) (by exact size_pay')) (by rfl) ?_
    exact ⟨none, 0, 0, rfl, Lib.hid rfl, Nat.le_refl _, Rd.nil, below_setRow hB14 (Nat.le_refl _) _⟩
end Go.Proofs.YtcnjackbiimjdaaDoor
/-
  What the reference's calls Bits and value of layer 11 answer. No conditions but those typed.
-/
namespace Go.Proofs.YtcnjackbiimjdaaDoor
set_option maxRecDepth 100000
open Go.RowKit
set_option linter.unusedSimpArgs false
set_option linter.unusedVariables false

/-- A call that hands back a list of bytes. -/
def RetY (w : World) (l : List UInt8) (e : Ending) (w' : World) : Prop := ∃ A n c, e = .returned (.slice A n c) ∧ Hid (l.length = n) ∧ n ≤ c ∧ Rd vB w' A l ∧ Below w.heap.size w w'
theorem RetY.own {w w' : World} {l : List UInt8} {base : Nat} {e : TypeId} {v : Value} {n : Nat} (hn : l.length = n) (h : w'.ownsRow base e 1 v n (l.map vB)) (hb : Below w.heap.size w w') : RetY w l (.returned v) w' := by
  subst hn
  obtain ⟨A, c, rfl, hc, hr⟩ := own_slice h
  exact ⟨A, l.length, c, rfl, rfl, hc, hr, hb⟩
def oneL (l : List Bool) : List UInt8 := l.map oneB
theorem one_append (a b : List Bool) : oneL (a ++ b) = oneL a ++ oneL b := List.map_append
theorem one_length (a : List Bool) : (oneL a).length = a.length := List.length_map _

/-! ### Bits -/
theorem bit_table : ∀ j, j < 8 → ∀ c, c < 256 → c / (128 / 2 ^ j) % 2 = (oneB ((bits8 (UInt8.ofNat c)).getD j false)).toNat := by decide +kernel
theorem bit_div (c : UInt8) (j : Nat) (hj : j < 8) : c.toNat / (128 / 2 ^ j) % 2 = (oneB ((bits8 c).getD j false)).toNat := by
  have := bit_table j hj c.toNat c.toNat_lt
  rwa [UInt8.ofNat_toNat] at this
theorem bits_take (c : UInt8) (j : Nat) (hj : j < 8) : (bits8 c).take (j + 1) = (bits8 c).take j ++ [(bits8 c).getD j false] := by
  have hl : j < (bits8 c).length := hj
  rw [List.take_succ_eq_append_getElem hl]
  congr 2
  rw [List.getD_eq_getElem?_getD, List.getElem?_eq_getElem hl]
  rfl
theorem bits_snoc (b : List UInt8) (k : Nat) (h : k < b.length) : bitsL (b.take (k + 1)) = bitsL (b.take k) ++ bits8 b[k] := by
  unfold bitsL
  rw [List.take_succ_eq_append_getElem h, List.flatMap_append]
  simp
def BitR (b : List UInt8) (w : World) (v i : Value) (wr : World) : Prop :=
  ∃ k : Nat, k ≤ b.length ∧ i = .int .i64 (k : Int) ∧ wr.ownsRow w.heap.size 5 1 v (8 * k) ((oneL (bitsL (b.take k))).map vB) ∧ Below w.heap.size w wr
def BitI (P : List Bool) (c : UInt8) (q : Nat) (w : World) (v n : Value) (wr : World) : Prop :=
  ∃ j : Nat, j ≤ 8 ∧ n = .int .i64 ((128 / 2 ^ j : Nat) : Int) ∧ wr.ownsRow w.heap.size 5 1 v (q + j) ((oneL (P ++ (bits8 c).take j)).map vB) ∧ Below w.heap.size w wr
theorem half_table : ∀ j, j < 8 → 128 / 2 ^ j / 2 = 128 / 2 ^ (j + 1) ∧ 0 < 128 / 2 ^ j ∧ 128 / 2 ^ j ≤ 128 := by decide +kernel

end Go.Proofs.YtcnjackbiimjdaaDoor
/-
  What the reference's calls value and Put of layer 11 answer. No conditions but those typed.
-/
namespace Go.Proofs.YtcnjackbiimjdaaDoor
set_option maxRecDepth 100000
open Go.RowKit
set_option linter.unusedSimpArgs false
set_option linter.unusedVariables false

def valT (l : List Bool) : UInt8 := l.foldl (fun v x => 2 * v + oneB x) 0
theorem valT_snoc (l : List Bool) (x : Bool) : valT (l ++ [x]) = 2 * valT l + oneB x := by unfold valT; rw [List.foldl_append]; rfl
theorem u8_two (v x : UInt8) : ((2 * v + x).toNat : Int) = (2 * (v.toNat : Int) % 256 + (x.toNat : Int)) % 256 := by
  rw [UInt8.toNat_add, UInt8.toNat_mul]
  have : (2 : UInt8).toNat = 2 := rfl
  rw [this]
  omega
def ValSt (l : List Bool) (w : World) (v i : Value) (wr : World) : Prop :=
  ∃ j : Nat, j ≤ 8 ∧ i = .int .i64 (j : Int) ∧ v = .int .u8 ((valT (l.take j)).toNat : Int) ∧ w = wr
/-! ### Put -/
def cntT (l : List Bool) : Nat := (l.filter id).length
theorem cnt_snoc (l : List Bool) (x : Bool) : cntT (l ++ [x]) = cntT l + (oneB x).toNat := by
  unfold cntT
  rw [List.filter_append, List.length_append]
  cases x <;> rfl
theorem cnt_seven : ∀ a b c d e f g : Bool, (cntT [a, b, c, d, e, f, g] = 0 ↔ [a, b, c, d, e, f, g] = List.replicate 7 false) ∧ (cntT [a, b, c, d, e, f, g] = 7 ↔ [a, b, c, d, e, f, g] = List.replicate 7 true) ∧ cntT [a, b, c, d, e, f, g] ≤ 7 := by decide +kernel
theorem cnt_g7 (M : List Bool) : (cntT (g7 M) = 0 ↔ g7 M = List.replicate 7 false) ∧ (cntT (g7 M) = 7 ↔ g7 M = List.replicate 7 true) ∧ cntT (g7 M) ≤ 7 := cnt_seven _ _ _ _ _ _ _
theorem g7_take (M : List Bool) : ∀ j, j < 7 → (g7 M).take (j + 1) = (g7 M).take j ++ [M.getD j true]
  | 0, _ => rfl
  | 1, _ => rfl
  | 2, _ => rfl
  | 3, _ => rfl
  | 4, _ => rfl
  | 5, _ => rfl
  | 6, _ => rfl
  | j + 7, h => by omega
theorem drop_getD (L : List Bool) (p j : Nat) : (L.drop p).getD j true = L.getD (p + j) true := by
  rw [List.getD_eq_getElem?_getD, List.getD_eq_getElem?_getD, List.getElem?_drop]
theorem getD_lt (L : List Bool) (i : Nat) (h : i < L.length) : L.getD i true = L[i] := by
  rw [List.getD_eq_getElem?_getD, List.getElem?_eq_getElem h]
  rfl
def PutO (L : List Bool) (w : World) (v at' : Value) (wr : World) : Prop :=
  ∃ (O : List UInt8) (p : Nat), at' = .int .i64 (p : Int) ∧ p ≤ L.length + 8 ∧ wr.ownsRow w.heap.size 5 1 v O.length (O.map vB) ∧ Hid (O ++ stuffL (L.drop p) = stuffL L) ∧ Below w.heap.size w wr
def PutG (M : List Bool) (w : World) (g sum i : Value) (wr : World) : Prop :=
  ∃ j : Nat, j ≤ 7 ∧ i = .int .i64 (j : Int) ∧ sum = .int .i64 (cntT ((g7 M).take j) : Int) ∧ wr.ownsRow w.heap.size 5 1 g j ((oneL ((g7 M).take j)).map vB) ∧ Below w.heap.size w wr

theorem putO_next {L M : List Bool} {O : List UInt8} {p t : Nat} {c : UInt8} (HO : O ++ stuffL M = stuffL L) (HSC : stuffL M = c :: stuffL (M.drop (taken M))) (HLD : M.drop (taken M) = L.drop (p + taken M)) (ht : taken M = t) : (O ++ [c]) ++ stuffL (L.drop (p + t)) = stuffL L := by
  rw [← HO, HSC, HLD, ht, List.append_assoc]
  rfl

end Go.Proofs.YtcnjackbiimjdaaDoor
/-
  What the reference's call Get of layer 11 answers. No conditions but those typed.
-/
namespace Go.Proofs.YtcnjackbiimjdaaDoor
set_option maxRecDepth 100000
open Go.RowKit
set_option linter.unusedSimpArgs false
set_option linter.unusedVariables false

/-- A call that hands back a list of bytes and a bool. -/
def RetB (w : World) (l : List UInt8) (k : Bool) (e : Ending) (w' : World) : Prop := ∃ A n c, e = .returned (.tuple #[.slice A n c, .bool k]) ∧ Hid (l.length = n) ∧ n ≤ c ∧ Rd vB w' A l ∧ Below w.heap.size w w'
theorem strY (n : Nat) {w : World} {A : Option Addr} {l : List UInt8} {c : Nat} (H : Hid (l.length = n)) (h : Rd vB w A l) : ∀ W, Below w.heap.size w W → (convert 23 9 (.slice A n c)).run Tryd.prog W = .ok (.string (strL l)) W :=
  fun W hW => run_str W _ _ _ Tryd.underlying23 Tryd.underlying5 Tryd.underlying9 A l n c H.out (h.keep hW)
theorem bits_block : ∀ (b : List UInt8) (k : Nat) (h : k < b.length), ((bitsL b).drop (8 * k)).take 8 = bits8 b[k]
  | c :: b, 0, _ => rfl
  | c :: b, k + 1, h => by
    have e : bitsL (c :: b) = bits8 c ++ bitsL b := rfl
    have e8 : (bits8 c).length = 8 := rfl
    rw [e, show 8 * (k + 1) = 8 + 8 * k by omega, ← List.drop_drop, show (8 : Nat) = (bits8 c).length from rfl, List.drop_left]
    exact bits_block b k (by simpa using h)
theorem raw_snoc (b : List UInt8) (k : Nat) (h : k < b.length) : rawL (b.take (k + 1)) = rawL (b.take k) ++ rawG b[k] := by
  unfold rawL
  rw [List.take_succ_eq_append_getElem h, List.flatMap_append]
  simp
theorem raw_len (c : UInt8) : (rawG c).length ≤ 8 := by
  unfold rawG
  split
  · rw [List.length_take]; show min 7 8 ≤ 8; omega
  · exact Nat.le_refl 8
theorem raw_length_le : ∀ b : List UInt8, (rawL b).length ≤ 8 * b.length
  | [] => by simp [rawL]
  | c :: b => by
    have e : rawL (c :: b) = rawG c ++ rawL b := rfl
    rw [e, List.length_append, List.length_cons]
    have := raw_len c
    have := raw_length_le b
    omega
theorem cut_next : ∀ (l : List Bool), 7 < l.length → cut8 l = val8 (l.take 8) :: cut8 (l.drop 8)
  | a :: b :: c :: d :: e :: f :: g :: h :: t, _ => rfl
theorem cut_short : ∀ (l : List Bool), ¬ 7 < l.length → cut8 l = []
  | [], _ => rfl
  | [_], _ => rfl
  | [_, _], _ => rfl
  | [_, _, _], _ => rfl
  | [_, _, _, _], _ => rfl
  | [_, _, _, _, _], _ => rfl
  | [_, _, _, _, _, _], _ => rfl
  | [_, _, _, _, _, _, _], _ => rfl
  | _ :: _ :: _ :: _ :: _ :: _ :: _ :: _ :: _, h => by simp at h
theorem cut_length : ∀ (n : Nat) (l : List Bool), l.length ≤ n → 8 * (cut8 l).length ≤ l.length
  | 0, l, h => by
    have : l = [] := List.eq_nil_of_length_eq_zero (by omega)
    subst this
    exact Nat.le_refl _
  | n + 1, l, h => by
    by_cases h7 : 7 < l.length
    · rw [cut_next l h7, List.length_cons]
      have := cut_length n (l.drop 8) (by rw [List.length_drop]; omega)
      rw [List.length_drop] at this
      omega
    · rw [cut_short l h7]
      exact Nat.zero_le _
theorem cnt_bits (c : UInt8) : (cntT ((bits8 c).take 7) = 0 ↔ (bits8 c).take 7 = List.replicate 7 false) ∧ (cntT ((bits8 c).take 7) = 7 ↔ (bits8 c).take 7 = List.replicate 7 true) ∧ cntT ((bits8 c).take 7) ≤ 7 := cnt_seven _ _ _ _ _ _ _
def GetR (s : List UInt8) (w : World) (v i : Value) (wr : World) : Prop :=
  ∃ k : Nat, k ≤ s.length ∧ i = .int .i64 (k : Int) ∧ wr.ownsRow w.heap.size 5 1 v (oneL (rawL (s.take k))).length ((oneL (rawL (s.take k))).map vB) ∧ Below w.heap.size w wr
def CntSt (B : List Bool) (s i : Value) : Prop := ∃ j : Nat, j ≤ 7 ∧ i = .int .i64 (j : Int) ∧ s = .int .i64 (cntT (B.take j) : Int)
def CutR (R : List Bool) (w : World) (v i : Value) (wr : World) : Prop :=
  ∃ (k : Nat) (O : List UInt8), i = .int .i64 (k : Int) ∧ k ≤ R.length + 8 ∧ wr.ownsRow w.heap.size 5 1 v O.length (O.map vB) ∧ Hid (O ++ cut8 (R.drop k) = cut8 R) ∧ Below w.heap.size w wr
theorem strs_beq (a b : List UInt8) : ((strL a).toList == (strL b).toList) = (a == b) := by rw [strL_toList, strL_toList]

end Go.Proofs.YtcnjackbiimjdaaDoor
/-
  Bits held in a number, and one group, as plain functions. No conditions but those typed.
-/
namespace Go.Proofs.YtcnjackbiimjdaaDoor
set_option maxRecDepth 100000
set_option linter.unusedVariables false
set_option linter.unusedSimpArgs false

/-! ### Bits held in a number -/
/-- The number of bits, the highest first. -/
def numB (l : List Bool) : Nat := l.foldl (fun v x => 2 * v + x.toNat) 0
theorem numB_snoc (l : List Bool) (x : Bool) : numB (l ++ [x]) = 2 * numB l + x.toNat := by unfold numB; rw [List.foldl_append]; rfl
theorem snoc_indSt {p : List Bool → Prop} (h0 : p []) (h1 : ∀ l x, p l → p (l ++ [x])) (l : List Bool) : p l := by
  have : ∀ (n : Nat) (l : List Bool), l.length = n → p l := by
    intro n
    induction n with
    | zero => intro l hl; rw [List.eq_nil_of_length_eq_zero hl]; exact h0
    | succ n ih =>
      intro l hl
      have hne : l ≠ [] := by intro e; subst e; simp at hl
      rw [← List.dropLast_concat_getLast hne]
      exact h1 _ _ (ih _ (by rw [List.length_dropLast, hl]; rfl))
  exact this _ l rfl
theorem numB_append (a b : List Bool) : numB (a ++ b) = numB a * 2 ^ b.length + numB b := by
  refine snoc_indSt (p := fun b => numB (a ++ b) = numB a * 2 ^ b.length + numB b) ?_ ?_ b
  · simp [numB]
  · intro l x ih
    rw [← List.append_assoc, numB_snoc, numB_snoc, ih, List.length_append, List.length_singleton, Nat.pow_succ]
    have : numB a * (2 ^ l.length * 2) = 2 * (numB a * 2 ^ l.length) := by rw [← Nat.mul_assoc, Nat.mul_comm]
    omega
theorem numB_lt (l : List Bool) : numB l < 2 ^ l.length := by
  refine snoc_indSt (p := fun l => numB l < 2 ^ l.length) (by decide) ?_ l
  intro l x ih
  rw [numB_snoc, List.length_append, List.length_singleton, Nat.pow_succ]
  have : x.toNat < 2 := by cases x <;> decide
  omega
theorem val8_num (l : List Bool) : (val8 l).toNat = numB l % 256 := by
  refine snoc_indSt (p := fun l => (val8 l).toNat = numB l % 256) rfl ?_ l
  intro l x ih
  have e : val8 (l ++ [x]) = 2 * val8 l + oneB x := by unfold val8; rw [List.foldl_append]; rfl
  have ex : (oneB x).toNat = x.toNat := by cases x <;> rfl
  have : x.toNat < 2 := by cases x <;> decide
  rw [e, numB_snoc, UInt8.toNat_add, UInt8.toNat_mul, ih, ex]
  have : (2 : UInt8).toNat = 2 := rfl
  rw [this]
  omega
theorem bits_num (c : UInt8) : numB (bits8 c) = c.toNat := by
  have h := val8_num (bits8 c)
  have h2 := numB_lt (bits8 c)
  rw [val_bits] at h
  have : (2 : Nat) ^ (bits8 c).length = 256 := by rw [show (bits8 c).length = 8 from rfl]
  omega
/-- The lowest bits of a number are those: all of P. -/
def Holds (H : Nat) (P : List Bool) : Prop := H % 2 ^ P.length = numB P
theorem two64 : 18446744073709551616 = 2 ^ 64 := (by simp)
theorem Holds.nil (H : Nat) : Holds H [] := by unfold Holds; simp [numB]; omega
theorem Holds.more {H : Nat} {P : List Bool} (h : Holds H P) (R : List Bool) (hl : P.length + R.length ≤ 64) : Holds ((H * 2 ^ R.length + numB R) % 18446744073709551616) (P ++ R) := by
  unfold Holds at h ⊢
  have hp : (2 : Nat) ^ 64 = 2 ^ (P.length + R.length) * 2 ^ (64 - (P.length + R.length)) := by rw [← Nat.pow_add]; congr 1; omega
  rw [show 18446744073709551616 = 2 ^ 64 from two64, List.length_append, hp, Nat.mod_mul_right_mod, numB_append, ← h, Nat.pow_add]
  have hr := numB_lt R
  have e : H * 2 ^ R.length + numB R = (H / 2 ^ P.length) * (2 ^ P.length * 2 ^ R.length) + (H % 2 ^ P.length * 2 ^ R.length + numB R) := by
    conv => lhs; rw [← Nat.div_add_mod H (2 ^ P.length)]
    rw [Nat.add_mul, Nat.mul_comm (2 ^ P.length) (H / _), Nat.mul_assoc]
    omega
  rw [e, Nat.mul_comm (H / _), Nat.mul_add_mod, Nat.mod_eq_of_lt]
  have h1 : H % 2 ^ P.length + 1 ≤ 2 ^ P.length := Nat.mod_lt _ (Nat.two_pow_pos _)
  have h2 := Nat.mul_le_mul_right (2 ^ R.length) h1
  rw [Nat.add_mul, Nat.one_mul] at h2
  omega
theorem Holds.rest {H : Nat} {P : List Bool} (h : Holds H P) (k : Nat) : Holds H (P.drop k) := by
  unfold Holds at h ⊢
  have e : numB P = numB (P.take k) * 2 ^ (P.drop k).length + numB (P.drop k) := by rw [← numB_append, List.take_append_drop]
  have hd : 2 ^ (P.drop k).length ∣ 2 ^ P.length := Nat.pow_dvd_pow 2 (by rw [List.length_drop]; omega)
  rw [← Nat.mod_mod_of_dvd H hd, h, e, Nat.mul_add_mod_self_right, Nat.mod_eq_of_lt (numB_lt _)]
theorem Holds.top {H : Nat} {P : List Bool} (h : Holds H P) (h8 : 8 ≤ P.length) : H / 2 ^ (P.length - 8) % 256 = (val8 (P.take 8)).toNat := by
  unfold Holds at h
  have e : numB P = numB (P.take 8) * 2 ^ (P.drop 8).length + numB (P.drop 8) := by rw [← numB_append, List.take_append_drop]
  have hl : (P.drop 8).length = P.length - 8 := List.length_drop
  have hp : (2 : Nat) ^ P.length = 2 ^ (P.length - 8) * 256 := by rw [show (256 : Nat) = 2 ^ 8 by decide, ← Nat.pow_add]; congr 1; omega
  have ht := numB_lt (P.take 8)
  rw [List.length_take, Nat.min_eq_left h8] at ht
  rw [val8_num, Nat.mod_eq_of_lt (show numB (P.take 8) < 256 from ht), ← Nat.mod_mul_right_div_self, ← hp, h, e, hl, Nat.mul_comm]
  have := numB_lt (P.drop 8)
  rw [hl] at this
  rw [Nat.mul_add_div (Nat.two_pow_pos _), Nat.div_eq_of_lt this]
  rfl
theorem num_ones (n : Nat) : numB (List.replicate n true) + 1 = 2 ^ n := by
  induction n with
  | zero => rfl
  | succ n ih =>
    rw [List.replicate_succ', numB_snoc, Nat.pow_succ]
    show 2 * _ + 1 + 1 = _
    omega
/-- What is left, and ones behind it, as the program's shifts have it. -/
theorem Holds.last {H : Nat} {P : List Bool} (h : Holds H P) (h8 : P.length ≤ 8) : ((H + 1) * 2 ^ (8 - P.length) - 1) % 256 = (val8 (P ++ List.replicate (8 - P.length) true)).toNat := by
  unfold Holds at h
  rw [val8_num, numB_append, List.length_replicate, ← h]
  have h1 := num_ones (8 - P.length)
  have hp : (256 : Nat) = 2 ^ P.length * 2 ^ (8 - P.length) := by rw [← Nat.pow_add, show P.length + (8 - P.length) = 8 by omega]
  have e : (H + 1) * 2 ^ (8 - P.length) - 1 = 256 * (H / 2 ^ P.length) + (H % 2 ^ P.length * 2 ^ (8 - P.length) + numB (List.replicate (8 - P.length) true)) := by
    conv => lhs; rw [← Nat.div_add_mod H (2 ^ P.length)]
    rw [Nat.add_mul, Nat.add_mul, Nat.one_mul, hp, Nat.mul_right_comm]
    omega
  rw [e, Nat.mul_add_mod]

/-! ### One group -/
def gz (y : UInt8) : UInt8 := val8 (g7 (bits8 y) ++ [eighth (bits8 y)])
def gt (y : UInt8) : Nat := taken (bits8 y)
def alikeT (y : UInt8) : Bool := decide (y.toNat / 2 = 0 ∨ y.toNat / 2 = 127)
theorem g_table : ∀ n, n < 256 → (gt (UInt8.ofNat n) = if alikeT (UInt8.ofNat n) then 7 else 8) ∧ (gz (UInt8.ofNat n)).toNat = (if alikeT (UInt8.ofNat n) then (n &&& 254) ||| (1 - n / 128) else n) ∧ rawG (UInt8.ofNat n) = (if alikeT (UInt8.ofNat n) then (bits8 (UInt8.ofNat n)).take 7 else bits8 (UInt8.ofNat n)) := by decide +kernel
theorem g_eq (M : List Bool) (y : UInt8) (h : bits8 y = M.take 8 ++ List.replicate (8 - M.length) true) : gz y = val8 (g7 M ++ [eighth M]) ∧ gt y = taken M := by
  rw [← g8_pad] at h
  have h1 : g7 (bits8 y) = g7 M := by rw [h]; rfl
  have h2 : (bits8 y).getD 7 true = M.getD 7 true := by rw [h]; rfl
  unfold gz gt eighth taken
  rw [h1, h2]
  exact ⟨rfl, rfl⟩
theorem val_take (M : List Bool) (h : 8 ≤ M.length) (y : UInt8) (hy : y.toNat = (val8 (M.take 8)).toNat) : bits8 y = M.take 8 ++ List.replicate (8 - M.length) true := by
  rw [UInt8.toNat_inj.1 hy, bits_val8 _ (by rw [List.length_take]; omega), show 8 - M.length = 0 by omega, List.replicate_zero, List.append_nil]
theorem val_last (M : List Bool) (h : M.length ≤ 8) (y : UInt8) (hy : y.toNat = (val8 (M ++ List.replicate (8 - M.length) true)).toNat) : bits8 y = M.take 8 ++ List.replicate (8 - M.length) true := by
  rw [UInt8.toNat_inj.1 hy, bits_val8 _ (by rw [List.length_append, List.length_replicate]; omega), List.take_of_length_le h]
end Go.Proofs.YtcnjackbiimjdaaDoor
/-
  What bytes.Equal answers. No conditions but those typed.
-/
namespace Go.Proofs.YtcnjackbiimjdaaDoor
set_option maxRecDepth 100000
open Go.RowKit
set_option linter.unusedSimpArgs false
set_option linter.unusedVariables false

theorem str_beq (a b : List UInt8) : ((strL a).toList == (strL b).toList) = decide (a = b) := by
  unfold strL
  rw [ByteArray.toList_mk, ByteArray.toList_mk]
  by_cases h : a = b <;> simp [h]

theorem equal_any (a b : List UInt8) (n m : Nat) (A B : Option Addr) (c d : Nat) (w : World) (HN : Hid (a.length = n)) (HM : Hid (b.length = m)) (ha : Rd vB w A a) (hb : Rd vB w B b) :
    Calls Tryd.prog 31 #[.slice A n c, .slice B m d] w fun e w' => e = .returned (.bool (decide (a = b))) ∧ w = w' := by
  have s0 : (convert 23 9 (.slice A n c)).run Tryd.prog w = .ok (.string (strL a)) w := run_str _ _ _ _ Tryd.underlying23 Tryd.underlying5 Tryd.underlying9 _ a _ _ HN.out ha
  have s1 : (convert 23 9 (.slice B m d)).run Tryd.prog w = .ok (.string (strL b)) w := run_str _ _ _ _ Tryd.underlying23 Tryd.underlying5 Tryd.underlying9 _ b _ _ HM.out hb
  have b0 := str_beq a b
  obtain ⟨r, hr⟩ : ∃ r, r = decide (a = b) := ⟨_, rfl⟩
  rw [← hr] at b0 ⊢
  generalize strL a = SA at s0 b0
  generalize strL b = SB at s1 b0
  clear hr ha hb
  go_enter Tryd.func31, Tryd.ntmps31
  go_wp2_with fail
  go_ret
  exact ⟨rfl, rfl⟩
end Go.Proofs.YtcnjackbiimjdaaDoor
/-
  What the program's calls of layer 11 answer, over the landed code. No conditions but those typed.
-/
namespace Go.Proofs.YtcnjackbiimjdaaDoor
set_option maxRecDepth 100000
open Go.RowKit
set_option linter.unusedSimpArgs false
set_option linter.unusedVariables false

/-- A call that hands back a list of bytes and an error. -/
def RetF (w : World) (l : List UInt8) (k : Int) (e : Ending) (w' : World) : Prop := ∃ A n c, e = .returned (.tuple #[.slice A n c, .int .i64 k]) ∧ Hid (l.length = n) ∧ n ≤ c ∧ Rd vB w' A l ∧ Below w.heap.size w w'
def mostSt (n : Int) : Int := if 0 ≤ n ∧ n ≤ 1048576 then (8 * n + 6) / 7 else 0

/-! ### alike, group, Most -/
theorem alike_any (y : UInt8) (w : World) : Calls Tryd.prog 30 #[.int .u8 (y.toNat : Int)] w fun e w' => e = .returned (.bool (alikeT y)) ∧ w = w' := by
  have hy := y.toNat_lt
  have HE : Hid (alikeT y = decide (y.toNat / 2 = 0 ∨ y.toNat / 2 = 127)) := rfl
  rw [HE.out]
  clear HE
  generalize y.toNat = m at hy
  obtain ⟨q, hq⟩ : ∃ q, m / 2 = q := ⟨_, rfl⟩
  have e1 : (m : Int) / 2 = (q : Int) := by omega
  have e2 : (m : Int).tdiv 2 = (q : Int) := by rw [Int.tdiv_eq_ediv_of_nonneg (by omega)]; exact e1
  have e3 : IntKind.u8.wrap (q : Int) = (q : Int) := by rw [IntKind.wrap_u8']; omega
  have e4 : (q : Int) % 256 = (q : Int) := by omega
  rw [hq]
  by_cases h0 : q = 0
  · subst h0
    clear hq
    go_enter Tryd.func30, Tryd.ntmps30
    go_wp2_with fail
    go_ret
    exact ⟨rfl, rfl⟩
  · have h1 : ((q : Int) == 0) = false := beq_eq_false_iff_ne.2 (by omega)
    by_cases h7 : q = 127
    · subst h7
      clear hq h0
      go_enter Tryd.func30, Tryd.ntmps30
      go_wp2_with fail
      go_ret
      exact ⟨rfl, rfl⟩
    · have h2 : ((q : Int) == 127) = false := beq_eq_false_iff_ne.2 (by omega)
      have e : decide (q = 0 ∨ q = 127) = false := decide_eq_false (fun h => h.elim h0 h7)
      rw [e]
      clear hq h0 h7 e
      go_enter Tryd.func30, Tryd.ntmps30
      go_wp2_with fail
      go_ret
      exact ⟨rfl, rfl⟩
theorem gz_val : ∀ n : Nat, n < 256 → bits .or .u8 (bits .andNot .u8 (n : Int) 1) (1 - (n : Int) / 128) = (((n &&& 254) ||| (1 - n / 128) : Nat) : Int) := by decide +kernel
theorem group_any (y : UInt8) (w : World) : Calls Tryd.prog 23 #[.int .u8 (y.toNat : Int)] w fun e w' => e = .returned (.tuple #[.int .u8 ((gz y).toNat : Int), .int .i64 (gt y : Int)]) ∧ w = w' := by
  have HT := Lib.hid (g_table y.toNat y.toNat_lt)
  have HA := Lib.hid (alike_any y w)
  have hy := y.toNat_lt
  unfold Hid at HT
  rw [UInt8.ofNat_toNat] at HT
  obtain ⟨h1, h2, _⟩ := HT
  obtain ⟨b, hb⟩ : ∃ b, alikeT y = b := ⟨_, rfl⟩
  rw [hb] at HA h1 h2
  rw [h1, h2]
  clear h1 h2 hb
  have HZ := Lib.hid (gz_val y.toNat hy)
  generalize y.toNat = m at hy HA HZ
  cases b
  · go_enter Tryd.func23, Tryd.ntmps23
    go_wp2_with fail
    refine HA.out.mono ?_
    rintro e w1 ⟨rfl, rfl⟩
    go_wp2_with fail
    go_ret2
    exact ⟨rfl, rfl⟩
  · have hz := HZ.out
    obtain ⟨q, hq⟩ : ∃ q, m / 128 = q := ⟨_, rfl⟩
    have e1 : (m : Int) / 128 = (q : Int) := by omega
    rw [e1] at hz
    have e4 : (q : Int) % 256 = (q : Int) := by omega
    have e5 : (1 - (q : Int)) % 256 = 1 - (q : Int) := by omega
    simp only [if_true]
    generalize ((m &&& 254) ||| (1 - m / 128) : Nat) = z at hz ⊢
    clear hq
    go_enter Tryd.func23, Tryd.ntmps23
    go_wp2_with fail
    refine HA.out.mono ?_
    rintro e w1 ⟨rfl, rfl⟩
    go_wp2_with fail
    go_ret2
    exact ⟨rfl, rfl⟩
/-! ### Put -/
def PutV (b : List UInt8) (R : List Bool) (H : Nat) (w : World) (s l : Value) (wr : World) : Prop :=
  ∃ (O : List UInt8) (P : List Bool) (p : Nat), l = .int .i64 (p : Int) ∧ p ≤ 15 ∧ Hid (P.length = p) ∧ Hid (Holds H P) ∧ wr.ownsRow w.heap.size 5 1 s O.length (O.map vB) ∧ Hid (O ++ stuffL (P ++ R) = putT b) ∧ Below w.heap.size w wr
def PutU (b : List UInt8) (w : World) (s h l i : Value) (wr : World) : Prop :=
  ∃ (k H : Nat) (O : List UInt8) (P : List Bool) (p : Nat), k ≤ b.length ∧ i = .int .i64 (k : Int) ∧ h = .int .u64 (H : Int) ∧ H < 18446744073709551616 ∧ l = .int .i64 (p : Int) ∧ p ≤ 7 ∧ Hid (P.length = p) ∧ Hid (Holds H P) ∧ wr.ownsRow w.heap.size 5 1 s O.length (O.map vB) ∧ Hid (O ++ stuffL (P ++ bitsL (b.drop k)) = putT b) ∧ Below w.heap.size w wr
theorem held_more (H c : Nat) (hc : c < 256) : bits .or .u64 (IntKind.u64.wrap ((H : Int) * 256)) (c : Int) = (((H * 256 + c) % 18446744073709551616 : Nat) : Int) := by
  have e : IntKind.u64.wrap ((H : Int) * 256) = ((2 ^ 8 * (H % 72057594037927936) : Nat) : Int) := by
    rw [IntKind.wrap_u64]
    omega
  rw [e, u64_or_nat _ _ (by omega) (by omega), ← Nat.two_pow_add_eq_or_of_lt (by omega)]
  congr 1
  omega
theorem put_bound {O : List UInt8} {L : List Bool} {b : List UInt8} (h : O ++ stuffL L = putT b) (hb : b.length ≤ 10000) : O.length ≤ 12000 := by
  have h1 := congrArg List.length h
  rw [List.length_append] at h1
  have := (put_length b).2
  omega
theorem put_round {O : List UInt8} {P R : List Bool} {T : List UInt8} (y : UInt8) (p : Nat) (hp : P.length = p) (h8 : 8 ≤ p) (hy : y.toNat = (val8 (P.take 8)).toNat) (h : O ++ stuffL (P ++ R) = T) :
    (O ++ [gz y]) ++ stuffL (P.drop (gt y) ++ R) = T ∧ 7 ≤ gt y ∧ gt y ≤ 8 ∧ (P.drop (gt y)).length = p - gt y := by
  have ht : (P ++ R).take 8 = P.take 8 := List.take_append_of_le_length (by omega)
  obtain ⟨e1, e2⟩ := g_eq (P ++ R) y (val_take (P ++ R) (by rw [List.length_append]; omega) y (by rw [ht]; exact hy))
  have hb := taken_pos (P ++ R)
  rw [← e2] at hb
  refine ⟨?_, hb.1, hb.2, by rw [List.length_drop, hp]⟩
  rw [← h, stuff_cons (P ++ R) (fun e => by have := congrArg List.length e; rw [List.length_append, List.length_nil] at this; omega), ← e1, ← e2, List.drop_append_of_le_length (by omega), List.append_assoc]
  rfl
theorem put_end {O : List UInt8} {P : List Bool} {T : List UInt8} (y : UInt8) (p : Nat) (hp : P.length = p) (h0 : 0 < p) (h8 : p ≤ 7) (hy : y.toNat = (val8 (P ++ List.replicate (8 - P.length) true)).toNat) (h : O ++ stuffL (P ++ []) = T) :
    O ++ [gz y] = T := by
  rw [List.append_nil] at h
  obtain ⟨e1, e2⟩ := g_eq P y (val_last P (by omega) y hy)
  have hb := taken_pos P
  rw [← h, stuff_cons P (fun e => by rw [e] at hp; simp at hp; omega), ← e1, List.drop_of_length_le (by omega)]
  rfl
theorem held_last (H p : Nat) (hp : p ≤ 7) (v : Nat) (hv : ((H + 1) * 2 ^ (8 - p) - 1) % 256 = v) (a b c : Int) (ha : a = IntKind.u64.wrap ((H : Int) + 1)) (hb : b = IntKind.u64.wrap (a * 2 ^ (8 - p))) (hc : c = IntKind.u64.wrap (b - 1)) : c % 256 = (v : Int) := by
  rw [IntKind.wrap_u64] at ha hb hc
  have h1 : 1 ≤ (H + 1) * 2 ^ (8 - p) := Nat.mul_pos (Nat.succ_pos _) (Nat.two_pow_pos _)
  have e : (((H : Int) + 1) * 2 ^ (8 - p)) % 256 = (a * 2 ^ (8 - p)) % 256 := by
    have e1 : a = ((H : Int) + 1) - 18446744073709551616 * (((H : Int) + 1) / 18446744073709551616) := by omega
    rw [e1, Int.sub_mul, Int.mul_assoc 18446744073709551616]
    generalize ((H : Int) + 1) * 2 ^ (8 - p) = x
    generalize ((H : Int) + 1) / 18446744073709551616 * 2 ^ (8 - p) = r
    omega
  have e2 : (((H + 1) * 2 ^ (8 - p) : Nat) : Int) = ((H : Int) + 1) * 2 ^ (8 - p) := by rw [Int.natCast_mul, Int.natCast_pow]; rfl
  rw [← e2] at e
  generalize (H + 1) * 2 ^ (8 - p) = x at *
  omega
set_option maxHeartbeats 4000000 in
theorem putF_any (b : List UInt8) (n : Nat) (A : Option Addr) (c : Nat) (w : World) (HN : Hid (b.length = n)) (hr : Rd vB w A b) (hc : n ≤ c) (hn : n ≤ 10000) :
    Calls Tryd.prog 14 #[.slice A n c] w (RetY w (putT b)) := by
  obtain ⟨i0, hi, hz0, hz1, hz2⟩ := info_parts info_u8
  have e1 := HN.out
  subst e1
  go_enter Tryd.func14, Tryd.ntmps14
  go_wp2_with fail
  go_loopw [3, 4, 5, 14] (fun s h l i wr => PutU b w s h l i wr) (fun _ _ _ i _ => b.length - (intOf i).toNat)
  case atStart => exact ⟨0, 0, [], [], 0, Nat.zero_le _, rfl, rfl, by omega, rfl, by omega, rfl, Holds.nil 0, World.ownsRow_nil _ _ _ _, rfl, Below.refl _ _⟩
  case round =>
    obtain ⟨k, H, O, P, p, hk, rfl, rfl, hH, rfl, hp, HP, HH, hown, HO, hbel⟩ := hrel
    by_cases h : k < b.length
    · obtain ⟨g, o, rfl, hg, hcell⟩ := hr.at h
      have hc0 := (hbel.cell (p := ⟨g, o + k, none⟩) hg).trans (hcell k h)
      have HDR : Hid (b.drop k = b[k] :: b.drop (k + 1)) := List.drop_eq_getElem_cons h
      generalize b[k] = y at hc0 HDR
      have hy := y.toNat_lt
      have HM : Hid (Holds ((H * 256 + y.toNat) % 18446744073709551616) (P ++ bits8 y)) := by
        have := Holds.more HH.out (bits8 y) (by rw [HP.out]; show p + 8 ≤ 64; omega)
        rw [bits_num] at this
        exact this
      have HMO := Lib.hid (held_more H y.toNat hy)
      have HO' : Hid (O ++ stuffL ((P ++ bits8 y) ++ bitsL (b.drop (k + 1))) = putT b) := by
        have := HO.out
        rw [HDR.out] at this
        rw [List.append_assoc]
        exact this
      have hV : Hid (y.toNat = y.toNat) := rfl
      unfold vB at hc0
      generalize y.toNat = m at hy hc0 HM HMO
      obtain ⟨H', hH'⟩ : ∃ H', (H * 256 + m) % 18446744073709551616 = H' := ⟨_, rfl⟩
      have hHlt : H' < 18446744073709551616 := by omega
      rw [hH'] at HM HMO
      have hmo := HMO.out
      have HP' : Hid ((P ++ bits8 y).length = p + 8) := by unfold Hid; rw [List.length_append, HP.out]; rfl
      have k1 : (k : Int) < (b.length : Int) := by omega
      have k0 : (0 : Int) ≤ (k : Int) := by omega
      clear hcell hV hH' HMO HDR HO HH HP
      go_wp2_with fail
      go_loopw [3, 5] (fun s l wx => PutV b (bitsL (b.drop (k + 1))) H' w s l wx) (fun _ l _ => (intOf l).toNat)
      case atStart => exact ⟨O, P ++ bits8 y, p + 8, by go_num, by omega, HP', HM, hown, HO', hbel⟩
      case round =>
        clear hown hbel HO' HP' HM hc0 hp hmo
        obtain ⟨O, P, p, rfl, hp, HP, HH, hown, HO, hbel⟩ := hrel
        by_cases h8 : 8 ≤ p
        · have j8 : (8 : Int) ≤ (p : Int) := by omega
          have jw : IntKind.i64.wrap ((p : Int) - 8) = ((p - 8 : Nat) : Int) := by rw [IntKind.wrap_i64]; omega
          have j0 : (0 : Int) ≤ (p : Int) - 8 := by omega
          have hv0 := HH.out.top (by rw [HP.out]; exact h8)
          rw [HP.out] at hv0
          obtain ⟨y2, hy2⟩ : ∃ y2, val8 (P.take 8) = y2 := ⟨_, rfl⟩
          rw [hy2] at hv0
          obtain ⟨r1, r2, r3, r4⟩ := put_round y2 p HP.out h8 (by rw [hy2]) HO.out
          have hrest := HH.out.rest (gt y2)
          have hv : (H' : Int) / 2 ^ (p - 8) % 256 = (y2.toNat : Int) := by rw [← hv0, Int.natCast_emod, Int.natCast_ediv, Int.natCast_pow]; rfl
          have HR1 := Lib.hid r1
          have HR4 := Lib.hid r4
          have HRS := Lib.hid hrest
          have HBD := Lib.hid (put_bound HO.out hn)
          have HGA := Lib.hid fun W => group_any y2 W
          clear hv0 hy2 r1 r4 hrest
          go_wp2_with fail
          rw [hv]
          obtain ⟨hl, hhl⟩ : ∃ hl : Int, (H' : Int) / 2 ^ (p - 8) = hl := ⟨_, rfl⟩
          rw [hhl]
          clear hhl hv
          refine (HGA.out _).mono ?_
          rintro e w1 ⟨rfl, rfl⟩
          generalize gz y2 = z at HR1 HGA ⊢
          generalize gt y2 = q at r2 r3 HR1 HR4 HRS HGA ⊢
          have hsz := hbel.size
          have hb1 := HBD.out
          clear HGA HBD
          have jq : IntKind.i64.wrap ((p : Int) - (q : Int)) = (p : Int) - (q : Int) := by rw [IntKind.wrap_i64]; omega
          go_wp2_with (at_builtin; refine wpList_append_own _ rfl _ _ 23 rfl w.heap.size 5 i0 (.int .u8 0) 1 1 Tryd.underlying23 hi hz0 hz1 hz2 rfl (by decide) _ _ _ rfl (hown.alloc _) ⟨wr.heap.size, 0, none⟩ 1 1 [.int .u8 (z.toNat : Int)] rfl rfl (cell_one_new _ _ _) (by intro u hu; simp at hu; subst hu; rfl) (by unfold maxLen; omega) (by omega) (by simp; omega) ?_; intro v5 w5 hown5 hgrow5 _)
          have hB5 : Below w.heap.size w w5 := (hbel.alloc hbel.size _).grown hgrow5 (by simp; omega) (fun g hk => (hown.lt g hk).1)
          have HR : Hid (PutV b (bitsL (b.drop (k + 1))) H' w v5 (.int .i64 ((p : Int) - (q : Int))) w5) := ⟨O ++ [z], P.drop q, p - q, by congr 1; omega, by omega, HR4.out, HRS.out, by rw [List.length_append, List.map_append]; exact hown5, HR1.out, hB5⟩
          clear hown5 hgrow5 hown hB5 hbel
          go_wp2_with fail
          go_roundw
          case rel => exact HR.out
          case measure => simp [intOf] <;> omega
        · have j8 : ¬ (8 : Int) ≤ (p : Int) := by omega
          have HR : Hid (PutU b w u3 (.int .u64 (H' : Int)) (.int .i64 (p : Int)) (.int .i64 ((k : Int) + 1)) wr) := ⟨k + 1, H', O, P, p, h, by go_num, rfl, hHlt, rfl, by omega, HP, HH, hown, HO, hbel⟩
          clear hown hbel HO HH HP
          go_wp2_with fail
          go_roundw
          case rel => exact HR.out
          case measure => simp [intOf] <;> omega
    · have ek : k = b.length := by omega
      subst ek
      have HOE : Hid (O ++ stuffL (P ++ []) = putT b) := by
        have := HO.out
        rwa [List.drop_of_length_le (Nat.le_refl _)] at this
      clear HO
      by_cases hp0 : 0 < p
      · have k2 : (0 : Int) < (p : Int) := by omega
        have k3 : IntKind.i64.wrap (8 - (p : Int)) = ((8 - p : Nat) : Int) := by rw [IntKind.wrap_i64]; omega
        have k4 : (0 : Int) ≤ 8 - (p : Int) := by omega
        have hl0 := HH.out.last (by rw [HP.out]; omega)
        rw [HP.out] at hl0
        obtain ⟨y2, hy2⟩ : ∃ y2, val8 (P ++ List.replicate (8 - p) true) = y2 := ⟨_, rfl⟩
        rw [hy2] at hl0
        have HE := Lib.hid (put_end y2 p HP.out hp0 hp (by rw [HP.out, hy2]) HOE.out)
        have HBD := Lib.hid (put_bound HOE.out hn)
        have HGA := Lib.hid fun W => group_any y2 W
        obtain ⟨a1, ha1⟩ : ∃ a, IntKind.u64.wrap ((H : Int) + 1) = a := ⟨_, rfl⟩
        obtain ⟨a2, ha2⟩ : ∃ a, IntKind.u64.wrap (a1 * 2 ^ (8 - p)) = a := ⟨_, rfl⟩
        obtain ⟨a3, ha3⟩ : ∃ a, IntKind.u64.wrap (a2 - 1) = a := ⟨_, rfl⟩
        have hv := held_last H p hp _ hl0 a1 a2 a3 ha1.symm ha2.symm ha3.symm
        clear hl0 hy2 HOE HH HP
        go_wp2_with fail
        rw [hv]
        clear hv ha1 ha2 ha3
        refine (HGA.out _).mono ?_
        rintro e w1 ⟨rfl, rfl⟩
        generalize gz y2 = z at HE HGA ⊢
        generalize gt y2 = q at HGA ⊢
        have hsz := hbel.size
        have hb1 := HBD.out
        clear HGA HBD
        go_wp2_with (at_builtin; refine wpList_append_own _ rfl _ _ 23 rfl w.heap.size 5 i0 (.int .u8 0) 1 1 Tryd.underlying23 hi hz0 hz1 hz2 rfl (by decide) _ _ _ rfl (hown.alloc _) ⟨wr.heap.size, 0, none⟩ 1 1 [.int .u8 (z.toNat : Int)] rfl rfl (cell_one_new _ _ _) (by intro u hu; simp at hu; subst hu; rfl) (by unfold maxLen; omega) (by omega) (by simp; omega) ?_; intro v5 w5 hown5 hgrow5 _)
        have hB5 : Below w.heap.size w w5 := (hbel.alloc hbel.size _).grown hgrow5 (by simp; omega) (fun g hk => (hown.lt g hk).1)
        have HR : Hid (RetY w (putT b) (.returned v5) w5) := RetY.own (n := O.length + 1) (by rw [← HE.out, List.length_append]; rfl) (by rw [← HE.out, List.map_append]; exact hown5) hB5
        clear hown5 hgrow5 hown hB5 hbel
        go_wp2_with fail
        go_ret
        exact HR.out
      · have k2 : ¬ (0 : Int) < (p : Int) := by omega
        have ep : p = 0 := by omega
        subst ep
        have e0 : P = [] := List.eq_nil_of_length_eq_zero HP.out
        subst e0
        have HE : Hid (O = putT b) := by
          have := HOE.out
          rwa [List.append_nil, stuff_nil, List.append_nil] at this
        clear HOE
        go_wp2_with fail
        go_ret
        rw [← HE.out]
        exact RetY.own rfl hown hbel
/-! ### Get -/
def GetU (s : List UInt8) (w : World) (v h l i : Value) (wr : World) : Prop :=
  ∃ (k H : Nat) (O : List UInt8) (P : List Bool) (p : Nat), k ≤ s.length ∧ i = .int .i64 (k : Int) ∧ h = .int .u64 (H : Int) ∧ H < 18446744073709551616 ∧ l = .int .i64 (p : Int) ∧ p ≤ 7 ∧ Hid (P.length = p) ∧ Hid (Holds H P) ∧ wr.ownsRow w.heap.size 5 1 v O.length (O.map vB) ∧ Hid (O ++ cut8 (P ++ rawL (s.drop k)) = candL s) ∧ Below w.heap.size w wr
theorem held_seven (H c : Nat) (hc : c < 128) : bits .or .u64 (IntKind.u64.wrap ((H : Int) * 128)) (c : Int) = (((H * 128 + c) % 18446744073709551616 : Nat) : Int) := by
  have e : IntKind.u64.wrap ((H : Int) * 128) = ((2 ^ 7 * (H % 144115188075855872) : Nat) : Int) := by
    rw [IntKind.wrap_u64]
    omega
  rw [e, u64_or_nat _ _ (by omega) (by omega), ← Nat.two_pow_add_eq_or_of_lt (by omega)]
  congr 1
  omega
theorem seven_table : ∀ n, n < 256 → numB ((bits8 (UInt8.ofNat n)).take 7) = n / 2 := by decide +kernel
theorem seven_num (y : UInt8) : numB ((bits8 y).take 7) = y.toNat / 2 := by
  have := seven_table y.toNat y.toNat_lt
  rwa [UInt8.ofNat_toNat] at this
theorem get_round {O : List UInt8} {P R : List Bool} {T : List UInt8} (p : Nat) (hp : P.length = p) (h8 : 8 ≤ p) (h : O ++ cut8 (P ++ R) = T) :
    (O ++ [val8 (P.take 8)]) ++ cut8 (P.drop 8 ++ R) = T ∧ (P.drop 8).length = p - 8 := by
  refine ⟨?_, by rw [List.length_drop, hp]⟩
  rw [← h, cut_next (P ++ R) (by rw [List.length_append]; omega), List.take_append_of_le_length (by omega), List.drop_append_of_le_length (by omega), List.append_assoc]
  rfl
theorem get_bound {O : List UInt8} {L : List Bool} {s : List UInt8} (h : O ++ cut8 L = candL s) : O.length ≤ s.length := by
  have h1 := congrArg List.length h
  rw [List.length_append] at h1
  have h2 := cut_length _ (rawL s) (Nat.le_refl _)
  have h3 := raw_length_le s
  unfold candL at h1
  omega
set_option maxHeartbeats 4000000 in
theorem getF_any (s : List UInt8) (n : Nat) (A : Option Addr) (c : Nat) (w : World) (HN : Hid (s.length = n)) (hr : Rd vB w A s) (hc : n ≤ c) (hn : n ≤ 10000) :
    Calls Tryd.prog 16 #[.slice A n c] w (RetF w (if putT (candL s) = s then candL s else []) (if putT (candL s) = s then 0 else 3)) := by
  obtain ⟨i0, hi, hz0, hz1, hz2⟩ := info_parts info_u8
  have e1 := HN.out
  subst e1
  obtain ⟨LG, hLG⟩ : ∃ L, (if putT (candL s) = s then candL s else []) = L := ⟨_, rfl⟩
  obtain ⟨kg, hkg⟩ : ∃ k : Int, (if putT (candL s) = s then 0 else 3) = k := ⟨_, rfl⟩
  rw [hLG, hkg]
  have HLG := Lib.hid hLG
  have HKG := Lib.hid hkg
  clear hLG hkg
  go_enter Tryd.func16, Tryd.ntmps16
  go_wp2_with fail
  go_loopw [4, 5, 6, 12] (fun v h l i wr => GetU s w v h l i wr) (fun _ _ _ i _ => s.length - (intOf i).toNat)
  case atStart => exact ⟨0, 0, [], [], 0, Nat.zero_le _, rfl, rfl, by omega, rfl, by omega, rfl, Holds.nil 0, World.ownsRow_nil _ _ _ _, rfl, Below.refl _ _⟩
  case round =>
    obtain ⟨k, H, O, P, p, hk, rfl, rfl, hH, rfl, hp, HP, HH, hown, HO, hbel⟩ := hrel
    by_cases h : k < s.length
    · obtain ⟨g, o, rfl, hg, hcell⟩ := hr.at h
      have hc0 := (hbel.cell (p := ⟨g, o + k, none⟩) hg).trans (hcell k h)
      have HDR : Hid (s.drop k = s[k] :: s.drop (k + 1)) := List.drop_eq_getElem_cons h
      generalize s[k] = y at hc0 HDR
      have hy := y.toNat_lt
      have k1 : (k : Int) < (s.length : Int) := by omega
      have k0 : (0 : Int) ≤ (k : Int) := by omega
      have HA := Lib.hid (alike_any y wr)
      have hraw := (g_table y.toNat hy).2.2
      rw [UInt8.ofNat_toNat] at hraw
      obtain ⟨b, hb⟩ : ∃ b, alikeT y = b := ⟨_, rfl⟩
      rw [hb] at HA hraw
      clear hb hcell
      have HO1 : Hid (O ++ cut8 ((P ++ rawG y) ++ rawL (s.drop (k + 1))) = candL s) := by
        have := HO.out
        rw [HDR.out] at this
        rw [List.append_assoc]
        exact this
      clear HO HDR
      unfold vB at hc0
      cases b
      · have hraw2 : rawG y = bits8 y := hraw
        rw [hraw2] at HO1
        have HM : Hid (Holds ((H * 256 + y.toNat) % 18446744073709551616) (P ++ bits8 y)) := by
          have := Holds.more HH.out (bits8 y) (by rw [HP.out]; show p + 8 ≤ 64; omega)
          rw [bits_num] at this
          exact this
        have hmo := held_more H y.toNat hy
        generalize y.toNat = m at hy hc0 HM hmo HA
        obtain ⟨H', hH'⟩ : ∃ H', (H * 256 + m) % 18446744073709551616 = H' := ⟨_, rfl⟩
        have hHlt : H' < 18446744073709551616 := by omega
        rw [hH'] at HM hmo
        have HP' : Hid ((P ++ bits8 y).length = p + 8) := by unfold Hid; rw [List.length_append, HP.out]; rfl
        clear hH' HH HP hraw hraw2
        generalize P ++ bits8 y = P' at HM HO1 HP'
        obtain ⟨r1, r4⟩ := get_round (p + 8) HP'.out (by omega) HO1.out
        have hv0 := HM.out.top (by rw [HP'.out]; omega)
        have hrest := HM.out.rest 8
        rw [HP'.out, show p + 8 - 8 = p by omega] at hv0
        rw [show p + 8 - 8 = p by omega] at r4
        generalize val8 (P'.take 8) = z at hv0 r1
        have hv : (H' : Int) / 2 ^ p % 256 = (z.toNat : Int) := by rw [← hv0, Int.natCast_emod, Int.natCast_ediv, Int.natCast_pow]; rfl
        have HBD := Lib.hid (get_bound HO1.out)
        have HR1 := Lib.hid r1
        have HR4 := Lib.hid r4
        have HRS := Lib.hid hrest
        clear hv0 r1 r4 hrest HO1 HM HP'
        generalize P'.drop 8 = P'' at HR1 HR4 HRS
        have hb1 := HBD.out
        have hsz := hbel.size
        clear HBD
        go_wp2_with fail
        refine HA.out.mono ?_
        rintro e w1 ⟨rfl, rfl⟩
        have j8 : (8 : Int) ≤ (p : Int) + 8 := by omega
        go_wp2_with (at_builtin; refine wpList_append_own _ rfl _ _ 23 rfl w.heap.size 5 i0 (.int .u8 0) 1 1 Tryd.underlying23 hi hz0 hz1 hz2 rfl (by decide) _ _ _ rfl (hown.alloc _) ⟨wr.heap.size, 0, none⟩ 1 1 [.int .u8 (z.toNat : Int)] rfl rfl (cell_one_new _ _ _) (by intro u hu; simp at hu; subst hu; rfl) (by unfold maxLen; omega) (by omega) (by simp; omega) ?_; intro v5 w5 hown5 hgrow5 _)
        have hB5 : Below w.heap.size w w5 := (hbel.alloc hbel.size _).grown hgrow5 (by simp; omega) (fun g hk => (hown.lt g hk).1)
        have HR : Hid (GetU s w v5 (.int .u64 (H' : Int)) (.int .i64 (p : Int)) (.int .i64 ((k : Int) + 1)) w5) := ⟨k + 1, H', O ++ [z], P'', p, h, by go_num, rfl, hHlt, rfl, hp, HR4, HRS, by rw [List.length_append, List.map_append]; exact hown5, HR1, hB5⟩
        clear hown5 hgrow5 hown hB5 hbel
        go_wp2_with fail
        go_roundw
        case rel => exact HR.out
        case measure => simp [intOf] <;> omega
      · have hraw2 : rawG y = (bits8 y).take 7 := hraw
        rw [hraw2] at HO1
        have h7l : ((bits8 y).take 7).length = 7 := rfl
        have HM : Hid (Holds ((H * 128 + y.toNat / 2) % 18446744073709551616) (P ++ (bits8 y).take 7)) := by
          have := Holds.more HH.out ((bits8 y).take 7) (by rw [HP.out, h7l]; omega)
          rw [seven_num, h7l] at this
          exact this
        have hmo := held_seven H (y.toNat / 2) (by omega)
        generalize y.toNat = m at hy hc0 HM hmo HA
        obtain ⟨m2, hm2⟩ : ∃ m2, m / 2 = m2 := ⟨_, rfl⟩
        have e1 : (m : Int) / 2 = (m2 : Int) := by omega
        have e2 : (m2 : Int) % 256 = (m2 : Int) := by omega
        have e3 : IntKind.u8.wrap (m2 : Int) = (m2 : Int) := by rw [IntKind.wrap_u8']; omega
        rw [hm2] at HM hmo
        obtain ⟨H', hH'⟩ : ∃ H', (H * 128 + m2) % 18446744073709551616 = H' := ⟨_, rfl⟩
        have hHlt : H' < 18446744073709551616 := by omega
        rw [hH'] at HM hmo
        have HP' : Hid ((P ++ (bits8 y).take 7).length = p + 7) := by unfold Hid; rw [List.length_append, HP.out]; rfl
        clear hH' HH HP hraw hraw2 hm2
        generalize P ++ (bits8 y).take 7 = P' at HM HO1 HP'
        by_cases h0 : 1 ≤ p
        · obtain ⟨q, rfl⟩ : ∃ q, p = q + 1 := ⟨p - 1, by omega⟩
          obtain ⟨r1, r4⟩ := get_round (q + 1 + 7) HP'.out (by omega) HO1.out
          have hv0 := HM.out.top (by rw [HP'.out]; omega)
          have hrest := HM.out.rest 8
          rw [HP'.out, show q + 1 + 7 - 8 = q by omega] at hv0
          rw [show q + 1 + 7 - 8 = q by omega] at r4
          generalize val8 (P'.take 8) = z at hv0 r1
          have hv : (H' : Int) / 2 ^ q % 256 = (z.toNat : Int) := by rw [← hv0, Int.natCast_emod, Int.natCast_ediv, Int.natCast_pow]; rfl
          have HBD := Lib.hid (get_bound HO1.out)
          have HR1 := Lib.hid r1
          have HR4 := Lib.hid r4
          have HRS := Lib.hid hrest
          clear hv0 r1 r4 hrest HO1 HM HP'
          generalize P'.drop 8 = P'' at HR1 HR4 HRS
          have hb1 := HBD.out
          have hsz := hbel.size
          clear HBD
          obtain ⟨p, hpq⟩ : ∃ p : Int, (q : Int) + 1 = p := ⟨_, rfl⟩
          have ep : ((q + 1 : Nat) : Int) = p := by omega
          rw [ep]
          have j1 : p + 7 - 8 = (q : Int) := by omega
          have j2 : IntKind.i64.wrap (p + 7) = p + 7 := by rw [IntKind.wrap_i64]; omega
          have j3 : IntKind.i64.wrap (q : Int) = (q : Int) := by rw [IntKind.wrap_i64]; omega
          have j8 : (8 : Int) ≤ p + 7 := by omega
          clear ep hpq
          go_wp2_with fail
          refine HA.out.mono ?_
          rintro e w1 ⟨rfl, rfl⟩
          go_wp2_with (at_builtin; refine wpList_append_own _ rfl _ _ 23 rfl w.heap.size 5 i0 (.int .u8 0) 1 1 Tryd.underlying23 hi hz0 hz1 hz2 rfl (by decide) _ _ _ rfl (hown.alloc _) ⟨wr.heap.size, 0, none⟩ 1 1 [.int .u8 (z.toNat : Int)] rfl rfl (cell_one_new _ _ _) (by intro u hu; simp at hu; subst hu; rfl) (by unfold maxLen; omega) (by omega) (by simp; omega) ?_; intro v5 w5 hown5 hgrow5 _)
          have hB5 : Below w.heap.size w w5 := (hbel.alloc hbel.size _).grown hgrow5 (by simp; omega) (fun g hk => (hown.lt g hk).1)
          have HR : Hid (GetU s w v5 (.int .u64 (H' : Int)) (.int .i64 (q : Int)) (.int .i64 ((k : Int) + 1)) w5) := ⟨k + 1, H', O ++ [z], P'', q, h, by go_num, rfl, hHlt, rfl, by omega, HR4, HRS, by rw [List.length_append, List.map_append]; exact hown5, HR1, hB5⟩
          clear hown5 hgrow5 hown hB5 hbel
          go_wp2_with fail
          go_roundw
          case rel => exact HR.out
          case measure => simp [intOf] <;> omega
        · have ep : p = 0 := by omega
          subst ep
          have HR : Hid (GetU s w u4 (.int .u64 (H' : Int)) (.int .i64 7) (.int .i64 ((k : Int) + 1)) wr) := ⟨k + 1, H', O, P', 7, h, by go_num, rfl, hHlt, rfl, by omega, HP', HM, hown, HO1, hbel⟩
          clear hown hbel HO1 HM HP'
          go_wp2_with fail
          refine HA.out.mono ?_
          rintro e w1 ⟨rfl, rfl⟩
          go_wp2_with fail
          go_roundw
          case rel => exact HR.out
          case measure => simp [intOf] <;> omega
    · have ek : k = s.length := by omega
      subst ek
      have HE : Hid (O = candL s) := by
        have := HO.out
        rw [List.drop_of_length_le (Nat.le_refl _)] at this
        rw [← this]
        show O = O ++ cut8 (P ++ [])
        rw [List.append_nil, cut_short P (by rw [HP.out]; omega), List.append_nil]
      have hb1 : O.length ≤ s.length := get_bound HO.out
      clear HO HP HH
      obtain ⟨A1, c1, rfl, hc1⟩ := own_form hown
      have hr1 := Rd.own hown
      rw [← HE.out] at HLG HKG
      clear HE
      have HB := Lib.hid hbel
      clear hown hbel
      have k1 : ¬ (s.length : Int) < (s.length : Int) := by omega
      go_wp2_with fail
      refine (putF_any O O.length A1 c1 _ (Lib.hid rfl) hr1 hc1 (by omega)).mono ?_
      rintro e w2 ⟨A2, n2, c2, rfl, HN2, hc2, hr2, hb2⟩
      have hr3 := hr1.keep hb2
      have hs2 := (hr.keep HB.out).keep hb2
      have HB2 := Lib.hid (below_step HB.out hb2)
      have HEQ := Lib.hid (equal_any (putT O) s n2 s.length A2 A c2 c w2 HN2 (Lib.hid rfl) hr2 hs2)
      clear hr2 hs2 hb2 hr1 HB
      go_wp2_with fail
      refine HEQ.out.mono ?_
      rintro e w3 ⟨rfl, rfl⟩
      by_cases hq : putT O = s
      · have hd : decide (putT O = s) = true := decide_eq_true hq
        have HL : Hid (LG = O) := by unfold Hid; rw [← HLG.out, if_pos hq]
        have HK : Hid (kg = 0) := by unfold Hid; rw [← HKG.out, if_pos hq]
        have hk := HK.out
        subst hk
        have hl := HL.out
        subst hl
        rw [hd]
        clear HLG HKG hq hd HEQ
        go_wp2_with fail
        go_ret2
        exact ⟨A1, _, c1, rfl, Lib.hid rfl, hc1, hr3, HB2.out⟩
      · have hd : decide (putT O = s) = false := decide_eq_false hq
        have HL : Hid (LG = []) := by unfold Hid; rw [← HLG.out, if_neg hq]
        have HK : Hid (kg = 3) := by unfold Hid; rw [← HKG.out, if_neg hq]
        have hk := HK.out
        subst hk
        have hl := HL.out
        subst hl
        rw [hd]
        clear HLG HKG hq hd HEQ
        go_wp2_with fail
        go_ret2
        exact ⟨none, 0, 0, rfl, Lib.hid rfl, Nat.le_refl _, Rd.nil, HB2.out⟩
theorem getF_ok (s : List UInt8) (n : Nat) (A : Option Addr) (c : Nat) (w : World) (HN : Hid (s.length = n)) (hr : Rd vB w A s) (hc : n ≤ c) (hn : n ≤ 10000) (H : Hid (putT (candL s) = s)) :
    Calls Tryd.prog 16 #[.slice A n c] w (RetF w (candL s) 0) := by
  have h := getF_any s n A c w HN hr hc hn
  rwa [if_pos H.out, if_pos H.out] at h
theorem getF_no (s : List UInt8) (n : Nat) (A : Option Addr) (c : Nat) (w : World) (HN : Hid (s.length = n)) (hr : Rd vB w A s) (hc : n ≤ c) (hn : n ≤ 10000) (H : Hid (putT (candL s) ≠ s)) :
    Calls Tryd.prog 16 #[.slice A n c] w (RetF w [] 3) := by
  have h := getF_any s n A c w HN hr hc hn
  rwa [if_neg H.out, if_neg H.out] at h
end Go.Proofs.YtcnjackbiimjdaaDoor
/-
  What the reference's call Put of layer 9 answers: checks by a register, which is set place by place. No conditions but those typed.
-/
namespace Go.Proofs.YtcnjackbiimjdaaDoor
set_option maxRecDepth 100000
open Go.RowKit
set_option linter.unusedSimpArgs false
set_option linter.unusedVariables false

/-! ### The register, place by place -/
theorem co_zip (a b : List UInt8) (i : Nat) (ha : i < a.length) (hb : i < b.length) : co (List.zipWith addB a b) i = addB (co a i) (co b i) := by
  rw [co_lt _ _ (by rw [List.length_zipWith]; omega), co_lt _ _ ha, co_lt _ _ hb, List.getElem_zipWith]
theorem co_take (l : List UInt8) (n i : Nat) (h : i < n) : co (l.take n) i = co l i := by
  unfold co
  rw [List.getD_eq_getElem?_getD, List.getD_eq_getElem?_getD, List.getElem?_take, if_pos h]
theorem co_map_mul (t : UInt8) (l : List UInt8) (i : Nat) : co (l.map (mulB t)) i = mulB t (co l i) := co_scale t l i
theorem reg_get (g reg : List UInt8) (top : UInt8) (i : Nat) (hi : i + 1 < reg.length) (hg : reg.length ≤ g.length) : co (regL g reg top) (i + 1) = addB (co reg i) (mulB top (co g (i + 1))) := by
  unfold regL
  rw [co_zip _ _ _ (by rw [List.length_cons, List.length_dropLast]; omega) (by rw [List.length_map, List.length_take]; omega), co_succ, co_map_mul, co_take _ _ _ hi, List.dropLast_eq_take, co_take _ _ _ (by omega)]
theorem reg_get0 (g reg : List UInt8) (top : UInt8) (hi : 0 < reg.length) (hg : reg.length ≤ g.length) : co (regL g reg top) 0 = mulB top (co g 0) := by
  unfold regL
  rw [co_zip _ _ _ (by rw [List.length_cons]; omega) (by rw [List.length_map, List.length_take]; omega), co_zero, zero_add, co_map_mul, co_take _ _ _ hi]
def mixL (L R : List UInt8) (k : Nat) : List UInt8 := L.take k ++ R.drop k
theorem mix_length (L R : List UInt8) (k : Nat) (h : L.length = R.length) : (mixL L R k).length = L.length := by
  unfold mixL
  rw [List.length_append, List.length_take, List.length_drop]
  omega
theorem mix_low (L R : List UInt8) (k i : Nat) (hi : i < k) (hk : k ≤ L.length) : co (mixL L R k) i = co L i := by
  unfold mixL co
  rw [List.getD_eq_getElem?_getD, List.getD_eq_getElem?_getD, List.getElem?_append_left (by rw [List.length_take]; omega), List.getElem?_take, if_pos hi]
theorem mix_set (L R : List UInt8) (k : Nat) (h : L.length = R.length) (hk : k < L.length) : (mixL L R (k + 1)).set k (co R k) = mixL L R k := by
  unfold mixL
  have e : L.take (k + 1) = L.take k ++ [L[k]] := List.take_succ_eq_append_getElem hk
  have e2 : R.drop k = R[k]'(by omega) :: R.drop (k + 1) := List.drop_eq_getElem_cons (by omega)
  have hl : (L.take k).length = k := by rw [List.length_take]; omega
  rw [e, e2, List.append_assoc, List.set_append_right _ _ (by omega), hl, Nat.sub_self, co_lt R k (by omega)]
  rfl
theorem mix_all (L R : List UInt8) (h : L.length = R.length) : mixL L R L.length = L := by
  unfold mixL
  rw [List.take_length, List.drop_of_length_le (by omega), List.append_nil]
theorem mix_none (L R : List UInt8) : mixL L R 0 = R := rfl

def InnR (L R : List UInt8) (gr : Nat) (wb : World) (kv : Value) (wx : World) : Prop :=
  ∃ k : Nat, k + 1 ≤ L.length ∧ kv = .int .i64 (k : Int) ∧ Cel wx gr 5 (mixL L R (k + 1)) ∧ Below wb.heap.size wb wx
def PutR (d G : List UInt8) (n gr : Nat) (wb : World) (iv : Value) (wr : World) : Prop :=
  ∃ j : Nat, j ≤ d.length ∧ iv = .int .i64 (j : Int) ∧ Cel wr gr 5 (runL G n (d.take j)) ∧ Below wb.heap.size wb wr
def twoC (p q : Addr) (a b : Value) (W : World) : Prop := W.cell? p = some a ∧ W.cell? q = some b
theorem run_take (G d : List UInt8) (n j : Nat) (h : j < d.length) : runL G n (d.take (j + 1)) = regL G (runL G n (d.take j)) (xorB (co d j) (co (runL G n (d.take j)) (n - 1))) := by
  rw [List.take_succ_eq_append_getElem h, run_snoc, co_lt d j h]
  rfl

end Go.Proofs.YtcnjackbiimjdaaDoor
/-
  What the program's calls Plain, Add, Mul, Times, Slope of layer 8 answer, over the landed code. No conditions but those typed.
-/
namespace Go.Proofs.YtcnjackbiimjdaaDoor
set_option maxRecDepth 100000
open Go.RowKit
set_option linter.unusedSimpArgs false
set_option linter.unusedVariables false

/-- What hands back bytes in memory of its own. -/
def RetP (w : World) (l : List UInt8) (e : Ending) (w' : World) : Prop := ∃ v, e = .returned v ∧ w'.ownsRow w.heap.size 5 1 v l.length (l.map vB) ∧ Below w.heap.size w w'
theorem RetP.any {w w' : World} {l : List UInt8} {e : Ending} (h : RetP w l e w') : RetQ w l e w' := by
  obtain ⟨v, rfl, ho, hb⟩ := h
  exact RetQ.own rfl ho hb
theorem plainP_own (p : List UInt8) (n : Nat) (A : Option Addr) (c : Nat) (w : World) (HN : Hid (p.length = n)) (hr : Rd vB w A p) (hc : n ≤ c) (hn : n ≤ 100000) :
    Calls Tryd.prog 46 #[.slice A n c] w (RetP w (plainL p)) := by
  go_enter Tryd.func46, Tryd.ntmps46
  go_wp2_with fail
  refine (cutP_any p n A c _ HN hr hc hn).mono ?_
  rintro e w1 ⟨k, rfl, HK, hk, hb1⟩
  have e1 := HK.out
  subst e1
  go_wp2_with fail
  refine (clone_own (plainL p) A c w1 (hr.keep hb1).plain (by omega)).mono ?_
  rintro e w2 ⟨v, rfl, ho, hb2⟩
  have hsz := hb1.size
  go_wp2_with fail
  go_ret
  refine ⟨v, rfl, ?_, below_step hb1 hb2⟩
  exact ⟨ho.1, ho.2.imp id fun ⟨g, cap, cur, h1, h2, h3⟩ => ⟨g, cap, cur, h1, Nat.le_trans hsz h2, h3⟩⟩
theorem plainP_any (p : List UInt8) (n : Nat) (A : Option Addr) (c : Nat) (w : World) (HN : Hid (p.length = n)) (hr : Rd vB w A p) (hc : n ≤ c) (hn : n ≤ 100000) :
    Calls Tryd.prog 46 #[.slice A n c] w (RetQ w (plainL p)) :=
  (plainP_own p n A c w HN hr hc hn).mono fun _ _ h => h.any
theorem addP_any (p q : List UInt8) (n m : Nat) (A B : Option Addr) (c d : Nat) (w : World) (HN : Hid (p.length = n)) (HM : Hid (q.length = m)) (hp : Rd vB w A p) (hq : Rd vB w B q) (hc : n ≤ c) (hd : m ≤ d) (hn : n ≤ 50000) (hm : m ≤ 50000) :
    Calls Tryd.prog 54 #[.slice A n c, .slice B m d] w (RetQ w (plainL (addL p q))) := by
  obtain ⟨i0, hi, hz0, hz1, hz2⟩ := info_parts info_u8
  go_enter Tryd.func54, Tryd.ntmps54
  go_wp2_with fail
  refine (cutP_any p n A c _ HN hp hc (by omega)).mono ?_
  rintro e w1 ⟨k1, rfl, HK1, hk1, hb1⟩
  go_wp2_with fail
  refine (cutP_any q m B d _ HM (hq.keep hb1) hd (by omega)).mono ?_
  rintro e w2 ⟨k2, rfl, HK2, hk2, hb2⟩
  have hB := below_step hb1 hb2
  replace hp := (hp.keep hB).plain
  replace hq := (hq.keep hB).plain
  have hq2 := hq
  obtain ⟨M, hM⟩ : ∃ M : Nat, M = max k1 k2 := ⟨_, rfl⟩
  have q0 : (if (k1 : Int) < (k2 : Int) then (k2 : Int) else (k1 : Int)) = (M : Int) := by rw [hM]; split <;> omega
  have q1 : (if k1 < k2 then (k2 : Int) else (k1 : Int)) = (M : Int) := by rw [hM]; split <;> omega
  have hM1 : k1 ≤ M := by omega
  have hM2 : k2 ≤ M := by omega
  have hM3 : M ≤ 50000 := by omega
  clear hM
  have HP1 := Lib.hid (plain_is_take p)
  go_upto_region 3 with (at_make; refine wpList_make_full _ rfl _ _ 23 rfl w2.heap.size 5 i0 (.int .u8 0) 1 Tryd.underlying23 hi hz0 hz1 .i64 .i64 _ _ M rfl rfl rfl rfl (by rw [hz2]; omega) (by unfold maxLen; omega) (Nat.le_refl _) ?_; intro w0 hown0 hgrow0)
  rw [Nat.mul_one, show (Value.int .u8 0).cells = #[.int .u8 0] from rfl, toList_madeCells_one, zeros_map] at hown0
  obtain ⟨hc0, _, _⟩ := cel_some hown0 List.length_replicate
  have hB0 : Below w2.heap.size w2 w0 := (Below.refl _ _).grown hgrow0 (Nat.le_refl _) (by simp)
  have hB3 := below_step hB hB0
  replace hp := hp.keep hB0
  replace hq := hq.keep hB0
  have hAq := hq2.apart (Nat.le_refl _)
  generalize hgd : w2.heap.size = g at hc0 hAq ⊢
  clear hown0 hgrow0 q0 q1
  have hPM : (plainL p).length ≤ (List.replicate M (0 : UInt8)).length := by rw [List.length_replicate, HK1.out]; omega
  have e1 := HK1.out
  subst e1
  go_upto_region 4 with (refine wpList_copy_cel rfl (.tmp 16) (.tmp 17) 23 23 rfl 5 Tryd.underlying23 (by kernel_rfl) g 0 M M A (plainL p) c rfl rfl (List.replicate M 0) 5 hc0 hp hM1 (by omega) ?_; intro w3 hc3 ho3)
  obtain ⟨hT1, hT2⟩ := pad_is (plainL p) M hM1
  have HSum := Lib.hid (at_one (q := q) hT2 (plain_eqv p) (plain_eqv q))
  generalize (List.replicate M (0 : UInt8)).take 0 ++ plainL p ++ (List.replicate M 0).drop (0 + (plainL p).length) = T at hc3 hT1 HSum
  have hq3 := hq.only ho3 hAq
  have hA := addtimes_any T (plainL q) 1 g 0 M M k2 B d w3 HK2 hc3 hq3 hAq hM2 (Nat.le_refl _) (by omega) (by omega)
  have HLen : Hid ((atL T 0 (scaleL 1 (plainL q))).length = M) := by unfold Hid; rw [at_length _ _ _ (by unfold scaleL; rw [List.length_map, HK2.out]; omega), hT1]
  generalize atL T 0 (scaleL 1 (plainL q)) = S at hA HSum HLen
  have HA := Lib.hid hA
  have hb3 : Below w2.heap.size w0 w3 := ho3.below.mono (by omega)
  clear hA hT2 hc3 hq3 hc0 hPM
  go_wp2_with fail
  refine HA.out.mono ?_
  rintro e w4 ⟨⟨v4, rfl⟩, hc4, ho4⟩
  have hb4 : Below w2.heap.size w3 w4 := ho4.below.mono (by omega)
  have hB4 : Below w.heap.size w w4 := hB.trans (((hB0.trans hb3).trans hb4).mono hB.size)
  go_wp2_with fail
  refine (cutP_any S M (some ⟨g, 0, none⟩) M _ HLen hc4.rd (Nat.le_refl _) (by omega)).mono ?_
  rintro e w5 ⟨k5, rfl, HK5, hk5, hb5⟩
  have hr5 := (hc4.rd.plain).keep hb5
  rw [HSum.out] at hr5 HK5
  go_wp2_with fail
  go_ret
  exact ⟨_, k5, M, rfl, HK5, hk5, hr5, below_step hB4 hb5⟩
def MulRel (P Q : List UInt8) (N g : Nat) (w : World) (i : Value) (wr : World) : Prop :=
  ∃ (k : Nat) (T : List UInt8), k ≤ P.length ∧ i = .int .i64 (k : Int) ∧ T.length = N ∧ Eqv T (mulL (P.take k) Q) ∧ CelN wr g 5 N T ∧ Only g w wr
set_option maxHeartbeats 2000000 in
theorem mulP_own (p q : List UInt8) (n m : Nat) (A B : Option Addr) (c d : Nat) (w : World) (HN : Hid (p.length = n)) (HM : Hid (q.length = m)) (hp : Rd vB w A p) (hq : Rd vB w B q) (hc : n ≤ c) (hd : m ≤ d) (hn : n ≤ 50000) (hm : m ≤ 50000) :
    Calls Tryd.prog 42 #[.slice A n c, .slice B m d] w (RetP w (plainL (mulL p q))) := by
  obtain ⟨i0, hi, hz0, hz1, hz2⟩ := info_parts info_u8
  go_enter Tryd.func42, Tryd.ntmps42
  go_wp2_with fail
  refine (cutP_any p n A c _ HN hp hc (by omega)).mono ?_
  rintro e w1 ⟨k1, rfl, HK1, hk1, hb1⟩
  go_wp2_with fail
  refine (cutP_any q m B d _ HM (hq.keep hb1) hd (by omega)).mono ?_
  rintro e w2 ⟨k2, rfl, HK2, hk2, hb2⟩
  have hB := below_step hb1 hb2
  replace hp := (hp.keep hB).plain
  replace hq := (hq.keep hB).plain
  by_cases h1 : k1 = 0
  · subst h1
    have HP : Hid (plainL (mulL p q) = []) := by
      have h3 : Eqv (mulL p q) [] := by
        refine (mul_congr (plain_eqv p).symm (Eqv.refl q)).trans ?_
        rw [List.eq_nil_of_length_eq_zero HK1.out]
        exact Eqv.refl _
      exact plain_nil h3.symm
    go_wp2_with fail
    go_ret
    rw [HP.out]
    exact ⟨_, rfl, World.ownsRow_nil _ _ _ _, hB⟩
  · by_cases h2 : k2 = 0
    · subst h2
      have HP : Hid (plainL (mulL p q) = []) := by
        have h3 : Eqv (mulL p q) [] := by
          refine (mul_congr (Eqv.refl p) (plain_eqv q).symm).trans ?_
          rw [List.eq_nil_of_length_eq_zero HK2.out]
          exact mulL_nil p
        exact plain_nil h3.symm
      have h1' : ((k1 : Int) == 0) = false := beq_eq_false_iff_ne.2 (by omega)
      go_wp2_with fail
      go_ret
      rw [HP.out]
      exact ⟨_, rfl, World.ownsRow_nil _ _ _ _, hB⟩
    · have h1' : ((k1 : Int) == 0) = false := beq_eq_false_iff_ne.2 (by omega)
      have h2' : ((k2 : Int) == 0) = false := beq_eq_false_iff_ne.2 (by omega)
      obtain ⟨M, hM⟩ : ∃ M : Nat, M + 1 = k1 + k2 := ⟨k1 + k2 - 1, by omega⟩
      have m0 : (k1 : Int) + (k2 : Int) - 1 = (M : Int) := by omega
      have m1 : M ≤ 100000 := by omega
      have HMM := Lib.hid hM
      have HKs : Hid (k1 ≠ 0 ∧ k2 ≠ 0) := ⟨h1, h2⟩
      clear hM h1 h2
      go_upto_region 5 with (at_make; refine wpList_make_full _ rfl _ _ 23 rfl w2.heap.size 5 i0 (.int .u8 0) 1 Tryd.underlying23 hi hz0 hz1 .i64 .i64 _ _ M rfl rfl rfl rfl (by rw [hz2]; omega) (by unfold maxLen; omega) (Nat.le_refl _) ?_; intro w0 hown0 hgrow0)
      rw [Nat.mul_one, show (Value.int .u8 0).cells = #[.int .u8 0] from rfl, toList_madeCells_one, zeros_map] at hown0
      obtain ⟨hc0, _, _⟩ := celN_some hown0 List.length_replicate
      have hB0 : Below w2.heap.size w2 w0 := (Below.refl _ _).grown hgrow0 (Nat.le_refl _) (by simp)
      have hgw : w.heap.size ≤ w2.heap.size := hB.size
      have hAp := hp.apart (Nat.le_refl _)
      have hAq := hq.apart (Nat.le_refl _)
      replace hp := hp.keep hB0
      replace hq := hq.keep hB0
      generalize hgd : w2.heap.size = g at hc0 hAp hAq hgw ⊢
      have hB3 : Below w.heap.size w w0 := below_step hB hB0
      clear hown0 hgrow0 hB0 hB hgd hb1 hb2
      have HE : Hid (∀ T : List UInt8, T.length = M → Eqv T (mulL (plainL p) (plainL q)) → T = plainL (mulL p q)) := fun T hT hE =>
        mul_plain_is (by intro e; have := HK1.out; rw [e] at this; exact HKs.out.1 this.symm) (by intro e; have := HK2.out; rw [e] at this; exact HKs.out.2 this.symm) (by rw [hT, HK1.out, HK2.out]; have := HMM.out; omega) hE
      generalize plainL p = P at HK1 hp hAp HE
      generalize plainL q = Q at HK2 hq hAq HE
      go_wp2_with fail
      go_loopw [29] (fun i wr => MulRel P Q M g w0 i wr) (fun i _ => k1 - (intOf i).toNat)
      case atStart => exact ⟨0, List.replicate M 0, Nat.zero_le _, rfl, List.length_replicate, fun k => by rw [List.take_zero, mulL, co_nil]; exact co_pad [] M k, hc0, Only.refl _ _⟩
      case round =>
        clear hc0
        obtain ⟨k, T, hk, rfl, hT, hE, hc, ho⟩ := hrel
        by_cases h : k < k1
        · have j1 : (k : Int) < (k1 : Int) := by omega
          have j0 : (0 : Int) ≤ (k : Int) := by omega
          have hkP : k < P.length := by rw [HK1.out]; exact h
          obtain ⟨b, ob, rfl, hb, hcell⟩ := (hp.only ho hAp).at hkP
          have hc1 := hcell k hkP
          unfold vB at hc1
          have hkM : k2 ≤ M - k := by have := HMM.out; omega
          have hkM2 : k < M := by have := HMM.out; have := HKs.out; omega
          have hcut := fun W => run_cut_at (P := Tryd.prog) 23 5 Tryd.underlying23 size_uint8 g 0 M M k (by omega) (Nat.le_refl _) hkM2 W
          simp only [Nat.zero_add] at hcut
          have hA := addtimes_cap T Q P[k] M g k (M - k) (M - k) k2 B d wr HK2 hc (hq.only ho hAq) hAq hkM (Nat.le_refl _) (by omega) (by omega)
          have HL : Hid ((atL T k (scaleL P[k] Q)).length = M) := by unfold Hid; rw [at_length _ _ _ (by unfold scaleL; rw [List.length_map, HK2.out]; omega), hT]
          have HR : Hid (Eqv (atL T k (scaleL P[k] Q)) (mulL (P.take (k + 1)) Q)) := mul_round hE hkP
          generalize atL T k (scaleL P[k] Q) = T' at hA HL HR
          generalize P[k] = x at hA hc1
          have HA := Lib.hid hA
          have HK := Lib.hid h
          have HO := Lib.hid ho
          clear hA hE hc ho hcell hkP hT hkM hkM2 h
          go_wp2_with fail
          refine HA.out.mono ?_
          rintro e w3 ⟨⟨v3, rfl⟩, hc3, ho3⟩
          go_wp2_with fail
          go_roundw
          case rel => exact ⟨k + 1, T', by rw [HK1.out]; exact HK.out, by go_num, HL.out, HR.out, hc3, HO.out.trans ho3⟩
          case measure => have := HK.out; simp [intOf] <;> omega
        · have hkk : k = P.length := by rw [HK1.out] at hk ⊢; omega
          have j1 : ¬ (k : Int) < (k1 : Int) := by omega
          have HRR : Hid (T = plainL (mulL p q)) := by
            refine HE.out T hT ?_
            rw [hkk, List.take_length] at hE
            exact hE
          have hbw : Below w.heap.size w0 wr := ho.below.mono hgw
          have hown := hc.own (base := w.heap.size) hgw (by omega) (by unfold maxLen; omega)
          rw [hT] at hown
          have HOW := Lib.hid hown
          clear hown hc ho hE hkk
          go_wp2_with fail
          go_ret
          exact ⟨_, rfl, by rw [← HRR.out, hT]; exact HOW.out, hB3.trans hbw⟩
theorem mulP_any (p q : List UInt8) (n m : Nat) (A B : Option Addr) (c d : Nat) (w : World) (HN : Hid (p.length = n)) (HM : Hid (q.length = m)) (hp : Rd vB w A p) (hq : Rd vB w B q) (hc : n ≤ c) (hd : m ≤ d) (hn : n ≤ 10000) (hm : m ≤ 10000) :
    Calls Tryd.prog 42 #[.slice A n c, .slice B m d] w (RetQ w (plainL (mulL p q))) :=
  (mulP_own p q n m A B c d w HN HM hp hq hc hd (by omega) (by omega)).mono fun _ _ h => h.any
def SlopeRel (S : List UInt8) (D g : Nat) (w : World) (i : Value) (wr : World) : Prop :=
  ∃ (k : Nat) (T : List UInt8), k ≤ D ∧ i = .int .i64 (k : Int) ∧ T.length = D ∧ (∀ j, j < k → co T j = co S j) ∧ Cel wr g 5 T ∧ Only g w wr
theorem slope_val (p : List UInt8) (k : Nat) : co (slopeL p) k = mulB (co p (k + 1)) (UInt8.ofNat ((k + 1) % 2)) := by
  rw [co_slope]
  by_cases h : k % 2 = 0
  · rw [if_pos h, show (k + 1) % 2 = 1 by omega]
    exact (mul_one _).symm
  · rw [if_neg h, show (k + 1) % 2 = 0 by omega]
    exact (mul_zero _).symm
set_option maxHeartbeats 2000000 in
theorem slopeP_any (p : List UInt8) (n : Nat) (A : Option Addr) (c : Nat) (w : World) (HN : Hid (p.length = n)) (hp : Rd vB w A p) (hc : n ≤ c) (hn : n ≤ 50000) :
    Calls Tryd.prog 56 #[.slice A n c] w (RetQ w (plainL (slopeL p))) := by
  obtain ⟨i0, hi, hz0, hz1, hz2⟩ := info_parts info_u8
  have hdl : (plainL p).length ≤ n := by rw [← HN.out]; exact plain_len p
  have hdeg := degP_any p n A c w HN hp hc (by omega)
  obtain ⟨D, hD⟩ : ∃ D, D = (plainL p).length - 1 := ⟨_, rfl⟩
  obtain ⟨L, hL⟩ : ∃ L, (plainL p).length = L := ⟨_, rfl⟩
  rw [hL] at hdeg hD hdl
  have q0 : (if (L : Int) - 1 < 0 then (0 : Int) else (L : Int) - 1) = (D : Int) := by rw [hD]; split <;> omega
  have q1 : (if L = 0 then (0 : Int) else (L : Int) - 1) = (D : Int) := by rw [hD]; split <;> omega
  have q2 : (if L < 1 then (0 : Int) else (L : Int) - 1) = (D : Int) := by rw [hD]; split <;> omega
  have hDn : D + 1 ≤ n ∨ D = 0 := by omega
  have HD := Lib.hid hdeg
  have HDL := Lib.hid hD
  have HLL := Lib.hid hL
  have hD1 : D ≤ 50000 := by omega
  clear hdeg hD hL
  go_enter Tryd.func56, Tryd.ntmps56
  go_wp2_with fail
  refine HD.out.mono ?_
  rintro e w1 ⟨rfl, hb1⟩
  go_upto_region 2 with (at_make; refine wpList_make_full _ rfl _ _ 23 rfl w1.heap.size 5 i0 (.int .u8 0) 1 Tryd.underlying23 hi hz0 hz1 .i64 .i64 _ _ D rfl rfl rfl rfl (by rw [hz2]; omega) (by unfold maxLen; omega) (Nat.le_refl _) ?_; intro w0 hown0 hgrow0)
  rw [Nat.mul_one, show (Value.int .u8 0).cells = #[.int .u8 0] from rfl, toList_madeCells_one, zeros_map] at hown0
  obtain ⟨hc0, _, _⟩ := cel_some hown0 List.length_replicate
  have hB0 : Below w1.heap.size w1 w0 := (Below.refl _ _).grown hgrow0 (Nat.le_refl _) (by simp)
  have hgw : w.heap.size ≤ w1.heap.size := hb1.size
  replace hp := hp.keep hb1
  have hAp := hp.apart (Nat.le_refl _)
  replace hp := hp.keep hB0
  generalize hgd : w1.heap.size = g at hc0 hAp hgw ⊢
  have hB3 : Below w.heap.size w w0 := below_step hb1 hB0
  clear hown0 hgrow0 hB0 hgd hb1 q0 q1 q2
  have HS : Hid (∀ k, co (slopeL p) k = mulB (co p (k + 1)) (UInt8.ofNat ((k + 1) % 2))) := slope_val p
  have HZ : Hid (∀ k, D ≤ k → co (slopeL p) k = 0) := fun k hk => by
    rw [HS.out, plain_ge p (k + 1) (by rw [HLL.out]; have := HDL.out; omega), zero_mul]
  have HPE : Hid (∀ T : List UInt8, Eqv T (slopeL p) → plainL T = plainL (slopeL p)) := fun T h => plain_congr h
  generalize hSp : slopeL p = S at HS HZ HPE
  have HSP := Lib.hid hSp
  clear hSp
  go_wp2_with fail
  go_loopw [11] (fun i wr => SlopeRel S D g w0 i wr) (fun i _ => D - (intOf i).toNat)
  case atStart => exact ⟨0, List.replicate D 0, Nat.zero_le _, rfl, List.length_replicate, fun j hj => absurd hj (Nat.not_lt_zero _), hc0, Only.refl _ _⟩
  case round =>
    clear hc0
    obtain ⟨k, T, hk, rfl, hT, hE, hcc, ho⟩ := hrel
    by_cases h : k < D
    · have j1 : (k : Int) < (D : Int) := by omega
      have j0 : (0 : Int) ≤ (k : Int) := by omega
      have j2 : (k : Int) + 1 < (n : Int) := by omega
      have j3 : (0 : Int) ≤ (k : Int) + 1 := by omega
      have hkp : k + 1 < p.length := by rw [HN.out]; omega
      obtain ⟨b, ob, rfl, hb, hcell⟩ := (hp.only ho hAp).at hkp
      have hc1 := hcell (k + 1) hkp
      unfold vB at hc1
      have hv := HS.out k
      rw [co_lt p (k + 1) hkp] at hv
      generalize p[k + 1] = x at hc1 hv
      obtain ⟨r, hr⟩ : ∃ r, r = (k + 1) % 2 := ⟨_, rfl⟩
      rw [← hr] at hv
      have hr2 : ((UInt8.ofNat r).toNat : Int) = (r : Int) := by rw [UInt8.toNat_ofNat']; omega
      have hM : ∀ W, Calls Tryd.prog 48 #[.int .u8 (x.toNat : Int), .int .u8 (r : Int)] W fun e w'' => e = .returned (.int .u8 ((co S k).toNat : Int)) ∧ W = w'' := fun W => by rw [hv, ← hr2]; exact gfmul_any x _ W
      have hfr := hcc.frozen k
      have hco := hcc.get k (by omega)
      have hset := hcc.set k (co S k)
      have hE' : ∀ j, j < k + 1 → co (T.set k (co S k)) j = co S j := fun j hj => by
        rw [co_set _ _ _ _ (by omega)]
        split
        · next e => rw [e]
        · exact hE j (by omega)
      have m1 : ((k : Int) + 1) % 2 = (r : Int) := by omega
      have m2 : ((k : Int) + 1).tmod 2 = (r : Int) := by rw [Int.tmod_eq_emod_of_nonneg (by omega)]; exact m1
      have m3 : (r : Int) % 256 = (r : Int) := by omega
      have HREL : Hid (SlopeRel S D g w0 (.int .i64 ((k : Int) + 1)) (wr.setCell ⟨g, k, none⟩ (.int .u8 ((co S k).toNat : Int)))) := ⟨k + 1, T.set k (co S k), h, by go_num, by rw [List.length_set]; exact hT, hE', hset, ho.setCell _ _⟩
      generalize co S k = z at hM hset HREL
      have HMu := Lib.hid hM
      have HT2 : True → ((k : Int) + 1).tmod 2 = (r : Int) := fun _ => m2
      have HT3 : True → ((k : Int) + 1) % 2 = (r : Int) := fun _ => m1
      have hr3 : r < 2 := by omega
      have HRr := Lib.hid hr
      clear hM hv hset hcc ho hE hE' hr hr2 m2 m1 hcell hkp m3
      go_wp2_with fail
      refine (HMu.out _).mono ?_
      rintro e w3 ⟨rfl, rfl⟩
      go_wp2_with fail
      go_roundw
      case rel => exact HREL.out
      case measure => simp [intOf] <;> omega
    · have hkD : k = D := by omega
      subst hkD
      have j1 : ¬ (k : Int) < (k : Int) := by omega
      have HT : Hid (plainL T = plainL S) := HPE.out T fun j => by
        rcases Nat.lt_or_ge j k with hj | hj
        · exact hE j hj
        · rw [HZ.out j hj, co_ge T j (by omega)]
      have hbw : Below w.heap.size w wr := hB3.trans (ho.below.mono hgw)
      have hrT := hcc.rd
      have HTl := Lib.hid hT
      clear hcc ho hE hT hB3
      go_wp2_with fail
      refine (cutP_any T k (some ⟨g, 0, none⟩) k _ HTl hrT (Nat.le_refl _) (by omega)).mono ?_
      rintro e w4 ⟨k4, rfl, HK4, hk4, hb4⟩
      have hr4 := (hrT.plain).keep hb4
      rw [HT.out, ← HSP.out] at hr4 HK4
      go_wp2_with fail
      go_ret
      exact ⟨_, k4, k, rfl, HK4, hk4, hr4, below_step hbw hb4⟩
end Go.Proofs.YtcnjackbiimjdaaDoor
/-
  A region that draws its order, in a loop's round (inside a fence that lets every call by): operations that leave the world as it is, and a tail in one order (no program is named here). No conditions but those typed.
-/
namespace Go.Proofs.YtcnjackbiimjdaaDoor
set_option maxRecDepth 100000
set_option linter.unusedSimpArgs false
set_option linter.unusedVariables false

/-- No operation is a defer statement. -/
def noDefer (ops : List Oper) : Bool := ops.all fun o => match o.op with | .defer _ => false | _ => true
theorem noDefer_at {ops : List Oper} (h : noDefer ops = true) {i : Nat} {o : Oper} (ho : ops[i]? = some o) : ∀ c, o.op ≠ .defer c := by
  intro c hc
  have h1 := List.all_eq_true.1 h o (List.mem_of_getElem? ho)
  rw [hc] at h1
  cases h1

section
variable {P : Program} {ops : Array Oper} {w : World} {md : Region.Mode} {n l₀ : Nat}
theorem wpIn_of_still {o : Oper} {a : Act} {K : Act → Prop} {K' : Act → World → Prop} {Q' : Exit → Act → World → Prop} (hd : ∀ c, o.op ≠ .defer c) (h : ∀ a, K a → K' a w) (hh : o.still P a w K) : o.wpIn (Fence.wide.inRound l₀) n P a w K' Q' := by
  unfold Oper.still at hh
  unfold Oper.wpIn
  refine ⟨fun _ _ => trivial, ?_⟩
  have e : (Fence.wide.inRound l₀).round = some l₀ := rfl
  rw [e, Oper.semAt_some l₀ a.eval o hd]
  generalize (execOp a.eval o).run P w = r at *
  cases r with
  | ok x w' =>
    cases x <;> simp only [Oper.stillUpon] at hh <;> simp only [Oper.uponIn]
    case enter f args =>
      obtain ⟨rfl, v, hc, hn⟩ := hh
      refine ⟨fun h0 => (by cases h0), ?_⟩
      have h2 : Calls P f args w' fun
        | .returned v, w'' => K' (a.put o.dst v) w''
        | .panicked chain, w'' => Q' (.panic chain) a w''
        | .outgrown, _ => LetsOut Q' := hc.mono fun e w'' ⟨he, hw⟩ => by subst he; subst hw; exact h _ hn
      exact CallsIn.inRound l₀ (callsIn_wide.2 h2)
    all_goals (obtain ⟨rfl, h2⟩ := hh; exact h _ h2)
  | halt x w' => simp only [Oper.stillUpon] at hh
theorem wpOpIn_of_stOp {i : Nat} {a : Act} {K : Act → Prop} {K' : Act → World → Prop} {Q' : Exit → Act → World → Prop} (hd : noDefer ops.toList = true) (h : ∀ a, K a → K' a w) (hh : stOp P ops w i K a) : wpOpIn (Fence.wide.inRound l₀) n P ops Q' i K' a w := by
  unfold stOp at hh
  unfold wpOpIn
  split
  · rename_i ho; simp only [ho] at hh; exact h _ hh
  · rename_i o ho
    simp only [ho] at hh
    split
    · rename_i hw; simp only [hw, if_true] at hh; exact wpIn_of_still (noDefer_at hd (i := i) (by simpa using ho)) h hh
    · rename_i hw; simp only [hw] at hh; exact ⟨fun _ _ => trivial, h _ hh⟩
theorem wpAnyIn_of_head {m g : Nat} {L : Array Bool → Act → Prop} {Q' : Exit → Act → World → Prop} (hd : noDefer ops.toList = true) (hL : ∀ listed a, L listed a → wpAnyIn (Fence.wide.inRound l₀) n P md ops Q' g listed a w) :
    ∀ (f : Nat) (listed : Array Bool) (a : Act), wpAnyL P md ops w m L f listed a → wpAnyIn (Fence.wide.inRound l₀) n P md ops Q' (f + g) listed a w
  | 0, listed, a, h => by rw [Nat.zero_add]; exact hL _ _ h
  | f + 1, listed, a, h => by
    rw [show f + 1 + g = (f + g) + 1 by omega]
    exact ⟨fun h0 => absurd h0 h.1, fun i hi => wpOpIn_of_stOp hd (fun a' h' => wpAnyIn_of_head hd hL f _ a' h') (h.2 i hi).2⟩
theorem wpAnyIn_of_seq {F : Fence} {Q' : Exit → Act → World → Prop} : ∀ (l : List Oper) (k : Nat) (listed : Array Bool) (a : Act) (w : World), (∀ j, l[j]? = ops[k + j]?) →
    Region.seqB md ops l.length k listed = true → wpListIn F n P ops Q' l a w → wpAnyIn F n P md ops Q' l.length listed a w
  | [], _, _, _, _, _, hB, h => ⟨by simpa [Region.seqB] using hB, h⟩
  | o :: l, k, listed, a, w, hl, hB, h => by
    have h0 : ops[k]? = some o := by simpa using (hl 0).symm
    simp only [List.length_cons, Region.seqB, Bool.and_eq_true, decide_eq_true_eq] at hB
    refine ⟨fun h1 => (by rw [hB.1] at h1; cases h1), fun i hi => ?_⟩
    rw [hB.1] at hi
    have hik : i = k := by simpa using hi
    subst hik
    have hw : wpOpIn F n P ops Q' i (wpListIn F n P ops Q' l) a w := by unfold wpOpIn; simp only [h0]; exact h
    exact wpOpIn_mono (fun a' w' h' => wpAnyIn_of_seq l (i + 1) _ a' w' (fun j => by have := hl (j + 1); simpa [Nat.add_assoc, Nat.add_comm 1 j] using this) hB.2 h') hw
theorem wpIn_region_still_tail {id : Nat} {Q : Exit → Act → World → Prop} {a : Act} {l : List Oper} (k : Nat) (hm : P.follows .mixedOrders = true) (hB : Region.lexTailB .any l.toArray k = true) (hnd : noDefer l = true)
    (h : wpStill P l.toArray w.drew (fun a' => wpListIn (Fence.wide.inRound l₀) n P l.toArray Q (l.drop k) a' w.drew) (l.take k) a) : (Code.region id l.toArray true).wpIn (Fence.wide.inRound l₀) n P Q a w := by
  simp only [Region.lexTailB, Bool.and_eq_true, decide_eq_true_eq] at hB
  obtain ⟨⟨⟨⟨hsel, hn⟩, hs⟩, hc⟩, hlex⟩ := hB
  have hn' : k < l.length := by simpa using hn
  have htl : (l.take k).length = k := by simp; omega
  have hdl : (l.drop k).length = l.toArray.size - k := by simp
  have inv0 : HeadInv .any l.toArray k (Array.replicate l.toArray.size false) :=
    ⟨by simp, fun j oj _ hl => (by rw [getD_replicate_false] at hl; cases hl), fun t _ ht => getD_in (by simpa using ht) (getD_replicate_false _ _)⟩
  have H := wpAnyL_lex (md := .any) (g := l.toArray.size - k) hsel hs hc hn (l.take k) 0 _ a (fun j hj => by
    have hj' : j < k := by rw [htl] at hj; exact hj
    simp [hj']) (by simpa using htl) inv0 (by rw [htl]; exact hlex) h
  refine wpIn_region_any hm ?_
  have := wpAnyIn_of_head (Q' := Q) (n := n) (l₀ := l₀) (g := l.toArray.size - k) (by simpa using hnd) (fun listed a' hL => by
    have := wpAnyIn_of_seq (F := Fence.wide.inRound l₀) (n := n) (md := .any) (Q' := Q) (l.drop k) k listed a' w.drew (fun j => by simp [List.getElem?_drop]) (by rw [hdl]; exact hL.1) hL.2
    rwa [hdl] at this) _ _ _ H
  rw [htl, show k + (l.toArray.size - k) = l.toArray.size by omega] at this
  exact this
end
end Go.Proofs.YtcnjackbiimjdaaDoor
