/-
  A block whose first cells are bytes, and worlds in which all but one block lies as it lay (no program is named here). No conditions but those typed.
-/
import Derived.Test.YteppocjgodmpdaaQ2
import Derived.Lib.SlBytesConst
import Derived.Deep.DeepCutAuto
import Derived.ProofKit
import Derived.OpenShut
import Derived.Deep.Slices
import Derived.Deep.Strs
import Derived.Test.YteppocjgodmpdaaRows
namespace Go.Proofs.Yteppocjgodmpdaa
set_option maxRecDepth 100000
open Go.RowKit
set_option linter.unusedSimpArgs false
set_option linter.unusedVariables false

/-! ### A block whose first cells are bytes -/
def Cel (w : World) (g : Nat) (e : TypeId) (l : List UInt8) : Prop := ∃ L, Row w g e L ∧ L.take l.length = l.map vB
section
variable {w w' : World} {g : Nat} {e : TypeId} {l : List UInt8}
theorem Cel.lt (h : Cel w g e l) : g < w.heap.size := by
  obtain ⟨L, h1, _⟩ := h
  exact h1.lt
theorem Cel.get (h : Cel w g e l) (i : Nat) (hi : i < l.length) : w.cell? ⟨g, i, none⟩ = some (.int .u8 ((co l i).toNat : Int)) := by
  obtain ⟨L, h1, h2⟩ := h
  rw [h1.cell? i, co_lt l i hi]
  have := congrArg (·[i]?) h2
  simp only [List.getElem?_take, hi, if_true, List.getElem?_map, List.getElem?_eq_getElem hi] at this
  exact this
theorem Cel.frozen (h : Cel w g e l) (i : Nat) : w.frozen? ⟨g, i, none⟩ = false := by
  obtain ⟨L, h1, _⟩ := h
  exact h1.frozen i
theorem Cel.set (h : Cel w g e l) (i : Nat) (z : UInt8) : Cel (w.setCell ⟨g, i, none⟩ (.int .u8 (z.toNat : Int))) g e (l.set i z) := by
  obtain ⟨L, h1, h2⟩ := h
  refine ⟨_, h1.setCell i (.int .u8 (z.toNat : Int)), ?_⟩
  rw [List.length_set, List.take_set, h2, List.map_set]
  rfl
theorem Cel.later (h : Cel w g e l) (hb : Below w.heap.size w w') : Cel w' g e l := by
  obtain ⟨L, h1, h2⟩ := h
  exact ⟨L, h1.later hb, h2⟩
theorem Cel.drew (h : Cel w g e l) : Cel w.drew g e l := h
theorem Cel.rd (h : Cel w g e l) : Rd vB w (some ⟨g, 0, none⟩) l := fun hn => ⟨g, 0, rfl, fun i hi => by rw [Nat.zero_add, h.get i hi, co_lt l i hi]; rfl⟩
theorem cel_of_own {base cap n : Nat} {A : Option Addr} (h : w.ownsRow base e 1 (.slice A n cap) n (l.map vB)) (hl : l.length = n) (hn : 0 < n) : ∃ g, A = some ⟨g, 0, none⟩ ∧ base ≤ g ∧ Cel w g e l := by
  rcases h.2 with ⟨_, h0⟩ | ⟨g, cap', cur, hv, hg, hgg, hc, hm, hs, ht⟩
  · omega
  · have hR : Row w g e cur.toList := hgg
    injection hv with e1 e2 e3
    rw [Nat.mul_one] at ht
    exact ⟨g, e1, hg, cur.toList, hR, by rw [hl]; exact ht⟩
end


/-- .. and the block has cap cells. -/
def CelN (w : World) (g : Nat) (e : TypeId) (cap : Nat) (l : List UInt8) : Prop := ∃ L, Row w g e L ∧ L.length = cap ∧ L.take l.length = l.map vB
theorem CelN.cel {w : World} {g : Nat} {e : TypeId} {cap : Nat} {l : List UInt8} (h : CelN w g e cap l) : Cel w g e l := by
  obtain ⟨L, h1, _, h2⟩ := h
  exact ⟨L, h1, h2⟩
theorem Cel.some_cap {w : World} {g : Nat} {e : TypeId} {l : List UInt8} (h : Cel w g e l) : ∃ cap, CelN w g e cap l := by
  obtain ⟨L, h1, h2⟩ := h
  exact ⟨L.length, L, h1, rfl, h2⟩
theorem CelN.drew {w : World} {g : Nat} {e : TypeId} {cap : Nat} {l : List UInt8} (h : CelN w g e cap l) : CelN w.drew g e cap l := h
theorem CelN.set {w : World} {g : Nat} {e : TypeId} {cap : Nat} {l : List UInt8} (h : CelN w g e cap l) (i : Nat) (z : UInt8) : CelN (w.setCell ⟨g, i, none⟩ (.int .u8 (z.toNat : Int))) g e cap (l.set i z) := by
  obtain ⟨L, h1, h3, h2⟩ := h
  refine ⟨_, h1.setCell i (.int .u8 (z.toNat : Int)), by rw [List.length_set]; exact h3, ?_⟩
  rw [List.length_set, List.take_set, h2, List.map_set]
  rfl
theorem celN_some {w : World} {e : TypeId} {l : List UInt8} {base cap n g : Nat} (h : w.ownsRow base e 1 (.slice (some ⟨g, 0, none⟩) n cap) n (l.map vB)) (hl : l.length = n) : CelN w g e cap l ∧ base ≤ g ∧ n ≤ cap ∧ cap ≤ maxLen := by
  rcases h.2 with ⟨e0, _⟩ | ⟨g', cap', cur, hv, hg, hgg, hc, hm, hs, ht⟩
  · cases e0
  · have hR : Row w g' e cur.toList := hgg
    injection hv with e1 e2 e3
    injection e1 with e1
    injection e1 with e1
    subst e1 e3
    rw [Nat.mul_one] at ht
    exact ⟨⟨cur.toList, hR, by rw [Array.length_toList, hs, Nat.mul_one], by rw [hl]; exact ht⟩, hg, hc, hm⟩
theorem CelN.own {w : World} {e : TypeId} {l : List UInt8} {g cap base : Nat} (h : CelN w g e cap l) (hb : base ≤ g) (hl : l.length ≤ cap) (hm : cap ≤ maxLen) : w.ownsRow base e 1 (.slice (some ⟨g, 0, none⟩) l.length cap) l.length (l.map vB) := by
  obtain ⟨L, h1, h3, h2⟩ := h
  exact ⟨by rw [List.length_map, Nat.mul_one], .inr ⟨g, cap, L.toArray, rfl, hb, h1, hl, hm, by rw [List.size_toArray, h3, Nat.mul_one], by rw [Nat.mul_one]; exact h2⟩⟩

theorem Cel.only {g q : Nat} {w w' : World} {e : TypeId} {l : List UInt8} (h : Cel w q e l) (k : Only g w w') (hq : q ≠ g) : Cel w' q e l := by
  have hlt := h.lt
  obtain ⟨L, h1, h2⟩ := h
  exact ⟨L, (k.other q hq hlt).trans h1, h2⟩
theorem Only.keeps {g : Nat} {w w' : World} {e : TypeId} {l : List UInt8} (h : Only g w w') (hc : Cel w g e l) (B : Nat) : KeepsFrom B w w' := by
  obtain ⟨L, h1, _⟩ := hc
  refine ⟨h.below.size, fun k o _ hk ho => ?_⟩
  by_cases e : k = g
  · subst e
    have h1' : w.heap[k]? = some (.cells L.toArray _ (0, 0)) := h1
    rw [h1'] at hk
    injection hk with hk
    subst hk
    cases ho
  · exact (h.other k e (Array.getElem?_eq_some_iff.1 hk).1).trans hk
/-- A slice of bytes that lies in a block of the call's own from its first cell on. -/
theorem cel_new {w : World} {e : TypeId} {n : Nat} : Cel (w.alloc (.cells (List.replicate n (Value.int .u8 0)).toArray e)) w.heap.size e (List.replicate n 0) :=
  ⟨_, Row.new w e _ _ rfl, by rw [List.length_replicate, List.take_of_length_le (by rw [List.length_replicate]; exact Nat.le_refl _), List.map_replicate]; rfl⟩
theorem Cel.rd_from {w : World} {g : Nat} {e : TypeId} {l : List UInt8} (h : Cel w g e l) (o n : Nat) (hn : o + n ≤ l.length) : Rd vB w (some ⟨g, o, none⟩) ((l.drop o).take n) := fun _ => ⟨g, o, rfl, fun i hi => by
  rw [List.length_take, List.length_drop] at hi
  have hj : o + i < l.length := by omega
  rw [h.get (o + i) hj, co_lt l (o + i) hj, List.getElem_take, List.getElem_drop]
  rfl⟩

theorem cel_some {w : World} {e : TypeId} {l : List UInt8} {base cap n g : Nat} (h : w.ownsRow base e 1 (.slice (some ⟨g, 0, none⟩) n cap) n (l.map vB)) (hl : l.length = n) : Cel w g e l ∧ base ≤ g ∧ n ≤ cap := by
  rcases h.2 with ⟨e0, _⟩ | ⟨g', cap', cur, hv, hg, hgg, hc, hm, hs, ht⟩
  · cases e0
  · have hR : Row w g' e cur.toList := hgg
    injection hv with e1 e2 e3
    injection e1 with e1
    injection e1 with e1
    subst e1
    rw [Nat.mul_one] at ht
    exact ⟨⟨cur.toList, hR, by rw [hl]; exact ht⟩, hg, by omega⟩
theorem zeros_map (n : Nat) : (List.replicate n (Value.int .u8 0)) = (List.replicate n (0 : UInt8)).map vB := by
  rw [List.map_replicate]
  rfl
/-- The cells that a copy leaves. -/
theorem cel_splice {l : List UInt8} {L : List Value} (hL : L.take l.length = l.map vB) (off : Nat) (S : List UInt8) (h : off + S.length ≤ l.length) :
    (L.take off ++ S.map vB ++ L.drop (off + S.length)).take (l.take off ++ S ++ l.drop (off + S.length)).length = (l.take off ++ S ++ l.drop (off + S.length)).map vB := by
  have hlen : l.length ≤ L.length := by
    have := congrArg List.length hL
    rw [List.length_take, List.length_map] at this
    omega
  have h1 : L.take off = (l.take off).map vB := by
    rw [List.map_take, ← hL, List.take_take, Nat.min_eq_left (by omega)]
  have h2 : (L.drop (off + S.length)).take (l.length - (off + S.length)) = (l.drop (off + S.length)).map vB := by
    rw [List.map_drop, ← hL, List.drop_take]
  have h3 : (L.take off ++ S.map vB).length = off + S.length := by rw [List.length_append, List.length_take, List.length_map]; omega
  have h4 : (l.take off ++ S ++ l.drop (off + S.length)).length = l.length := by
    rw [List.length_append, List.length_append, List.length_take, List.length_drop]
    omega
  rw [h4, List.take_append, h3, List.take_of_length_le (by omega), h2, h1, List.map_append, List.map_append]
/-- 'copy(d, s)' into a block whose first cells are bytes. -/
theorem wpList_copy_cel {P : Program} {ops : Array Oper} {rest : List Oper} {o : Oper} {a : Act} {w : World} {Q : Exit → Act → World → Prop} (hgd : o.guard = none) (d s : Operand) (dT sT : TypeId)
    (ho : o.op = .call { callee := .builtin .copy, args := #[d, s], argTypes := #[dT, sT] }) (elem : TypeId) (hu : P.underlying dT = some (.slice elem)) (hsz : (P.info? elem).map (·.size) = some 1)
    (g off dLen dCap : Nat) (A : Option Addr) (S : List UInt8) (sCap : Nat) (hd : a.eval d = .slice (some ⟨g, off, none⟩) dLen dCap) (hs : a.eval s = .slice A S.length sCap)
    (l : List UInt8) (t : TypeId) (hg : Cel w g t l) (hr : Rd vB w A S) (hle : S.length ≤ dLen) (hfit : off + S.length ≤ l.length)
    (h : ∀ w', Cel w' g t (l.take off ++ S ++ l.drop (off + S.length)) → Only g w w' → wpList P ops Q rest (a.put o.dst (.int .i64 (S.length : Int))) w') : wpList P ops Q (o :: rest) a w := by
  obtain ⟨L, h1, h2⟩ := hg
  have hlen : l.length ≤ L.length := by
    have := congrArg List.length h2
    rw [List.length_take, List.length_map] at this
    omega
  refine wpList_copy_row hgd d s dT sT ho elem hu hsz g off dLen dCap A S sCap hd hs L t h1 hr (fun _ => rfl) hle (by omega) ?_
  exact h _ ⟨_, h1.setRow _, cel_splice h2 off S hfit⟩ ((Only.refl g w).setRow _)
end Go.Proofs.Yteppocjgodmpdaa
/-
  What the program's package reader does (landed code): its calls, one by one; the numbers of eight bytes. No conditions but those typed.
-/
namespace Go.Proofs.Yteppocjgodmpdaa
set_option maxRecDepth 100000
open Go.RowKit
set_option linter.unusedSimpArgs false
set_option linter.unusedVariables false

theorem lt_ne {S : List UInt8} {A : Option Addr} {g : Nat} (h : S ≠ [] → ∀ a, A = some a → a.block < g) : S ≠ [] → ∀ a, A = some a → a.block ≠ g := fun h1 a ha => Nat.ne_of_lt (h h1 a ha)
/-- The reader's block: what is left, and what was wrong. -/
def RdS (g : Nat) (S : List UInt8) (n : Nat) (k : Int) (w : World) : Prop := ∃ A c, Row w g 45 [.slice A n c, .int .i64 k] ∧ Hid (S.length = n) ∧ n ≤ c ∧ Rd vB w A S ∧ (S ≠ [] → ∀ a, A = some a → a.block < g)

theorem cut_fromB {P : Program} (t e : TypeId) (ht : P.underlying t = some (.slice e)) (hz : ∀ w, (sizeOf e).run P w = .ok 1 w) (A : Option Addr) (n cap k : Nat) (hk : k ≤ n) (hc : n ≤ cap) :
    ∃ A', (∀ w, (Instr.slice t (.slice A n cap) (some (.int .i64 (k : Int))) none none).run P w = .ok (.slice A' (n - k) (cap - k)) w) ∧
      (∀ {α : Type} (f : α → Value) (w : World) (l : List α), l.length = n → Rd f w A l → Rd f w A' (l.drop k)) ∧ (∀ a', A' = some a' → ∃ a, A = some a ∧ a'.block = a.block) := by
  have ht' : P.underlying t = some (.slice (P.elem t)) := by simp [Program.elem, ht]
  have he : P.elem t = e := by simp [Program.elem, ht]
  refine ⟨if cap = k then A else A.map (·.add (k * 1)), fun w => ?_, fun f w l hl h => h.drop k cap (by omega), fun a' h => ?_⟩
  · rw [run_slice_l w t A n cap ht' .i64 (k : Int) (by omega) (by omega), he, hz]
    simp [sliced]
  · split at h
    · exact ⟨a', h, rfl⟩
    · cases A with
      | none => cases h
      | some a =>
        injection h with h
        subst h
        exact ⟨a, rfl, by show (a.add (k * 1)).block = a.block; simp [Addr.add] <;> (try split) <;> rfl⟩
/-! ### keep -/
theorem keep_bad (g : Nat) (v : Value) (k e : Int) (w : World) (hR : Row w g 45 [v, .int .i64 k]) (hk : k ≠ 0) :
    Calls Try.prog 25 #[.pointer (some ⟨g, 0, none⟩), .int .i64 e] w fun e₁ w' => e₁ = .returned (.tuple #[]) ∧ w = w' := by
  have c1 : w.cell? ⟨g, 1, none⟩ = some (.int .i64 k) := hR.cell rfl
  have k1 : (k == 0) = false := beq_eq_false_iff_ne.2 hk
  go_enter Try.func25, Try.ntmps25
  go_wp2_with fail
  first | go_end0 | refine bodyPost_ret (results_none rfl _ _ _) rfl ?_
  exact ⟨rfl, rfl⟩
theorem keep_ok (g : Nat) (v : Value) (e : Int) (w : World) (hR : Row w g 45 [v, .int .i64 0]) :
    Calls Try.prog 25 #[.pointer (some ⟨g, 0, none⟩), .int .i64 e] w fun e₁ w' => e₁ = .returned (.tuple #[]) ∧ Row w' g 45 [v, .int .i64 e] ∧ Only g w w' := by
  have c1 : w.cell? ⟨g, 1, none⟩ = some (.int .i64 0) := hR.cell rfl
  have f1 := hR.frozen 1
  go_enter Try.func25, Try.ntmps25
  go_wp2_with fail
  first | go_end0 | refine bodyPost_ret (results_none rfl _ _ _) rfl ?_
  exact ⟨rfl, hR.setCell 1 _, (Only.refl g w).setCell 1 _⟩

/-! ### next -/
theorem next_bad (g n : Nat) (A : Option Addr) (c : Nat) (k : Int) (m : Int) (w : World) (hR : Row w g 45 [.slice A n c, .int .i64 k]) (hk : k ≠ 0) :
    Calls Try.prog 19 #[.pointer (some ⟨g, 0, none⟩), .int .i64 m] w fun e₁ w' => e₁ = .returned (.slice none 0 0) ∧ w = w' := by
  have c0 : w.cell? ⟨g, 0, none⟩ = some (.slice A n c) := hR.cell rfl
  have c1 : w.cell? ⟨g, 1, none⟩ = some (.int .i64 k) := hR.cell rfl
  have k1 : (k == 0) = false := beq_eq_false_iff_ne.2 hk
  have k2 : (k != 0) = true := by rw [bne, k1]; rfl
  by_cases h : (n : Int) < m
  · go_enter Try.func19, Try.ntmps19
    go_wp2_with fail
    refine (keep_bad g _ k 2 w hR hk).mono ?_
    rintro e₁ w1 ⟨rfl, rfl⟩
    go_wp2_with fail
    go_ret
    exact ⟨rfl, rfl⟩
  · go_enter Try.func19, Try.ntmps19
    go_wp2_with fail
    go_ret
    exact ⟨rfl, rfl⟩
theorem next_short (g : Nat) (S : List UInt8) (n m : Nat) (w : World) (h : RdS g S n 0 w) (hm : n < m) :
    Calls Try.prog 19 #[.pointer (some ⟨g, 0, none⟩), .int .i64 (m : Int)] w fun e₁ w' => e₁ = .returned (.slice none 0 0) ∧ RdS g S n 2 w' ∧ Only g w w' := by
  obtain ⟨A, c, hR, HN, hc, hr, hA⟩ := h
  have c0 : w.cell? ⟨g, 0, none⟩ = some (.slice A n c) := hR.cell rfl
  have i1 : (n : Int) < (m : Int) := by omega
  go_enter Try.func19, Try.ntmps19
  go_wp2_with fail
  refine (keep_ok g _ 2 w hR).mono ?_
  rintro e₁ w1 ⟨rfl, hR1, hO⟩
  have hr1 := hr.only hO (lt_ne hA)
  have c0 : w1.cell? ⟨g, 0, none⟩ = some (.slice A n c) := hR1.cell rfl
  have c1 : w1.cell? ⟨g, 1, none⟩ = some (.int .i64 2) := hR1.cell rfl
  go_wp2_with fail
  go_ret
  exact ⟨rfl, ⟨A, c, hR1, HN, hc, hr1, hA⟩, hO⟩
theorem next_ok (g : Nat) (S : List UInt8) (n m : Nat) (w : World) (h : RdS g S n 0 w) (hm : m ≤ n) (hn : n ≤ 1000000) :
    Calls Try.prog 19 #[.pointer (some ⟨g, 0, none⟩), .int .i64 (m : Int)] w fun e₁ w' => ∃ A c, e₁ = .returned (.slice A m c) ∧ m ≤ c ∧ Rd vB w' A (S.take m) ∧ RdS g (S.drop m) (n - m) 0 w' ∧ Only g w w' := by
  obtain ⟨A, c, hR, HN, hc, hr, hA⟩ := h
  have c0 : w.cell? ⟨g, 0, none⟩ = some (.slice A n c) := hR.cell rfl
  have c1 : w.cell? ⟨g, 1, none⟩ = some (.int .i64 0) := hR.cell rfl
  have f0 := hR.frozen 0
  have i1 : ¬ (n : Int) < (m : Int) := by omega
  have i0 : (0 : Int) ≤ (m : Int) := by omega
  have i2 : (m : Int) ≤ (c : Int) := by omega
  have hmc : m ≤ c := by omega
  obtain ⟨A', hsl, hcut, hA'⟩ := cut_fromB (P := Try.prog) 23 5 Try.underlying23 size_uint8 A n c m (by omega) (by omega)
  have hto := run_cut_to (P := Try.prog) 23 5 Try.underlying23 size_uint8 A n c m (by omega)
  have hO := (Only.refl g w).setCell 0 (.slice A' (n - m) (c - m))
  have hR' := hR.setCell 0 (.slice A' (n - m) (c - m))
  have hr1 := hcut vB w S HN.out hr
  have hr2 := hr.take m
  have hne : ∀ j, S.drop j ≠ [] → S ≠ [] := fun j h e => h (by rw [e, List.drop_nil])
  have hnt : ∀ j, S.take j ≠ [] → S ≠ [] := fun j h e => h (by rw [e, List.take_nil])
  have hX : RdS g (S.drop m) (n - m) 0 (w.setCell ⟨g, 0, none⟩ (.slice A' (n - m) (c - m))) := by
    refine ⟨A', c - m, hR', by unfold Hid; rw [List.length_drop, HN.out], by omega, hr1.only hO ?_, ?_⟩
    · intro h a' ha'
      obtain ⟨a, ha, e⟩ := hA' a' ha'
      rw [e]
      exact Nat.ne_of_lt (hA (hne m h) a ha)
    · intro h a' ha'
      obtain ⟨a, ha, e⟩ := hA' a' ha'
      rw [e]
      exact hA (hne m h) a ha
  have hY : Rd vB (w.setCell ⟨g, 0, none⟩ (.slice A' (n - m) (c - m))) A (S.take m) := hr2.only hO (fun h a ha => Nat.ne_of_lt (hA (hnt m h) a ha))
  have HX := Lib.hid (And.intro hX (And.intro hY hO))
  clear hX hY hO hR' hr1 hr2 hne hnt hA' hcut hr hA hR
  go_enter Try.func19, Try.ntmps19
  go_wp2_with fail
  go_ret
  exact ⟨A, c, rfl, hmc, HX.out.2.1, HX.out.1, HX.out.2.2⟩

/-! ### one -/
theorem one_bad (g n : Nat) (A : Option Addr) (c : Nat) (k : Int) (w : World) (hR : Row w g 45 [.slice A n c, .int .i64 k]) (hk : k ≠ 0) :
    Calls Try.prog 24 #[.pointer (some ⟨g, 0, none⟩)] w fun e₁ w' => e₁ = .returned (.int .u8 0) ∧ w = w' := by
  go_enter Try.func24, Try.ntmps24
  go_wp2_with fail
  refine (next_bad g n A c k 1 w hR hk).mono ?_
  rintro e₁ w1 ⟨rfl, rfl⟩
  go_wp2_with fail
  go_ret
  exact ⟨rfl, rfl⟩
theorem one_short (g : Nat) (w : World) (h : RdS g [] 0 0 w) :
    Calls Try.prog 24 #[.pointer (some ⟨g, 0, none⟩)] w fun e₁ w' => e₁ = .returned (.int .u8 0) ∧ RdS g [] 0 2 w' ∧ Only g w w' := by
  go_enter Try.func24, Try.ntmps24
  go_wp2_with fail
  refine (next_short g [] 0 1 w h (by omega)).mono ?_
  rintro e₁ w1 ⟨rfl, h1, h2⟩
  go_wp2_with fail
  go_ret
  exact ⟨rfl, h1, h2⟩
theorem one_ok (g : Nat) (x : UInt8) (r : List UInt8) (n : Nat) (w : World) (h : RdS g (x :: r) n 0 w) (hn : n ≤ 1000000) :
    Calls Try.prog 24 #[.pointer (some ⟨g, 0, none⟩)] w fun e₁ w' => e₁ = .returned (.int .u8 (x.toNat : Int)) ∧ RdS g r (n - 1) 0 w' ∧ Only g w w' := by
  have hn1 : 1 ≤ n := by
    obtain ⟨_, _, _, HN, _⟩ := h
    have := HN.out
    rw [List.length_cons] at this
    omega
  go_enter Try.func24, Try.ntmps24
  go_wp2_with fail
  refine (next_ok g (x :: r) n 1 w h hn1 hn).mono ?_
  rintro e₁ w1 ⟨A, c, rfl, hmc, hr, h1, h2⟩
  have hr' : Rd vB w1 A [x] := hr
  have h1' : RdS g r (n - 1) 0 w1 := h1
  obtain ⟨b, o, rfl, hb, hc⟩ := hr'.at (show 0 < [x].length by simp)
  have hc0 : w1.cell? ⟨b, o, none⟩ = some (.int .u8 (x.toNat : Int)) := hc 0 (by simp)
  clear hr hc h1 hr'
  go_wp2_with fail
  go_ret
  exact ⟨rfl, h1', h2⟩

/-! ### mark -/
/-- What is wrong, and what is left: if nothing is wrong. -/
def RdRF (g : Nat) (k : Int) (S : List UInt8) (w : World) : Prop := ∃ S' n, RdS g S' n k w ∧ n ≤ 1000000 ∧ (k = 0 → S' = S)
theorem RdRF.below {g : Nat} {k : Int} {S : List UInt8} {w w' : World} (h : RdRF g k S w) (hb : Below (g + 1) w w') : RdRF g k S w' := by
  obtain ⟨S', n, ⟨A, c, hR, HN, hc, hr, hA⟩, hn, h2⟩ := h
  refine ⟨S', n, ⟨A, c, hR.keep hb (by omega), HN, hc, fun hne => ?_, hA⟩, hn, h2⟩
  obtain ⟨b, o, rfl, hcell⟩ := hr hne
  have hlt := hA hne _ rfl
  refine ⟨b, o, rfl, fun i hi => ?_⟩
  rw [← hcell i hi]
  exact hb.cell (p := ⟨b, o + i, none⟩) (show b < g + 1 by exact Nat.lt_succ_of_lt hlt)
theorem RdRF.lt {g : Nat} {k : Int} {S : List UInt8} {w : World} (h : RdRF g k S w) : g < w.heap.size := by
  obtain ⟨S', n, ⟨A, c, hR, _⟩, _⟩ := h
  exact hR.lt
/-- Behind a mark: what is wrong, what is left. -/
def markK (M : UInt8) : List UInt8 → Int × List UInt8
  | [] => (2, [])
  | x :: r => if x ≠ M then (3, []) else (0, r)
theorem mark_any (M : UInt8) (m : Nat) (hM : M.toNat = m) (h0 : m ≠ 0) (g : Nat) (b : List UInt8) (n : Nat) (w : World) (h : RdS g b n 0 w) (hn : n ≤ 1000000) :
    Calls Try.prog 16 #[.pointer (some ⟨g, 0, none⟩), .int .u8 (m : Int)] w fun e₁ w' => e₁ = .returned (.tuple #[]) ∧ RdRF g (markK M b).1 (markK M b).2 w' ∧ Only g w w' := by
  cases b with
  | nil =>
    have en : n = 0 := by
      obtain ⟨_, _, _, HN, _⟩ := h
      exact HN.out.symm
    subst en
    have z1 : ((0 : Int) == (m : Int)) = false := beq_eq_false_iff_ne.2 (by omega)
    have z2 : ((0 : Int) != (m : Int)) = true := by rw [bne, z1]; rfl
    go_enter Try.func16, Try.ntmps16
    go_wp2_with fail
    refine (one_short g w h).mono ?_
    rintro e₁ w1 ⟨rfl, h1, h2⟩
    go_wp2_with fail
    obtain ⟨A, c, hR, _⟩ := id h1
    refine (keep_bad g _ 2 3 w1 hR (by decide)).mono ?_
    rintro e₁ w2 ⟨rfl, rfl⟩
    go_wp2_with fail
    first | go_end0 | refine bodyPost_ret (results_none rfl _ _ _) rfl ?_
    exact ⟨rfl, ⟨[], 0, h1, by omega, fun h => absurd (show (2 : Int) = 0 from h) (by decide)⟩, h2⟩
  | cons x r =>
    by_cases hx : x = M
    · have HM : Hid (markK M (x :: r) = (0, r)) := if_neg (not_not_intro hx)
      have hO := Lib.hid (one_ok g x r n w h hn)
      rw [HM.out]
      have hxm : x.toNat = m := by rw [hx]; exact hM
      rw [hxm] at hO
      clear HM hxm hx hM h
      go_enter Try.func16, Try.ntmps16
      go_wp2_with fail
      refine hO.out.mono ?_
      rintro e₁ w1 ⟨rfl, h1, h2⟩
      go_wp2_with fail
      first | go_end0 | refine bodyPost_ret (results_none rfl _ _ _) rfl ?_
      exact ⟨rfl, ⟨r, n - 1, h1, by omega, fun _ => rfl⟩, h2⟩
    · have HM : Hid (markK M (x :: r) = (3, [])) := if_pos hx
      have hx2 : x.toNat ≠ m := fun e => hx (UInt8.toNat_inj.1 (e.trans hM.symm))
      have hO := Lib.hid (one_ok g x r n w h hn)
      rw [HM.out]
      generalize x.toNat = q at hx2 hO
      have hx3 : ((q : Int) == (m : Int)) = false := beq_eq_false_iff_ne.2 (by omega)
      have hx4 : ((q : Int) != (m : Int)) = true := by rw [bne, hx3]; rfl
      clear HM hx hM h hx2
      go_enter Try.func16, Try.ntmps16
      go_wp2_with fail
      refine hO.out.mono ?_
      rintro e₁ w1 ⟨rfl, h1, h2⟩
      obtain ⟨A, c, hR, HN, hc, hr, hA⟩ := id h1
      go_wp2_with fail
      refine (keep_ok g _ 3 w1 hR).mono ?_
      rintro e₁ w2 ⟨rfl, hR2, h3⟩
      go_wp2_with fail
      first | go_end0 | refine bodyPost_ret (results_none rfl _ _ _) rfl ?_
      exact ⟨rfl, ⟨r, n - 1, ⟨A, c, hR2, HN, hc, hr.only h3 (lt_ne hA), hA⟩, by omega, fun h => absurd h (by decide)⟩, h2.trans h3⟩

/-! ### Keep, One, Next, Number, whatever is wrong -/
def keepK (k e : Int) : Int := if k = 0 then e else k
/-- Keep: what is wrong stays; what is left, too. -/
theorem keep_any (g : Nat) (k e : Int) (S : List UInt8) (w : World) (h : RdRF g k S w) :
    Calls Try.prog 25 #[.pointer (some ⟨g, 0, none⟩), .int .i64 e] w fun e₁ w' => e₁ = .returned (.tuple #[]) ∧ RdRF g (keepK k e) S w' ∧ Only g w w' := by
  obtain ⟨S', n, h1, hn, h2⟩ := h
  unfold keepK
  by_cases hk : k = 0
  · rw [if_pos hk]
    have e' := h2 hk
    subst e' hk
    obtain ⟨A, c, hR, HN, hc, hr, hA⟩ := h1
    refine (keep_ok g _ e w hR).mono ?_
    rintro e₁ w2 ⟨rfl, hR2, h3⟩
    exact ⟨rfl, ⟨S', n, ⟨A, c, hR2, HN, hc, hr.only h3 (lt_ne hA), hA⟩, hn, fun _ => rfl⟩, h3⟩
  · rw [if_neg hk]
    obtain ⟨A, c, hR, _⟩ := id h1
    refine (keep_bad g _ k e w hR hk).mono ?_
    rintro e₁ w' ⟨rfl, rfl⟩
    exact ⟨rfl, ⟨S', n, h1, hn, fun h => absurd h hk⟩, Only.refl g w⟩
/-- One: the byte, what is wrong, what is left. -/
def oneK (k : Int) (S : List UInt8) : Nat × Int × List UInt8 := if k = 0 then (match S with | [] => (0, 2, []) | x :: r => (x.toNat, 0, r)) else (0, k, [])
theorem oneK_lt (k : Int) (S : List UInt8) : (oneK k S).1 < 256 := by
  unfold oneK
  split
  · split
    · show 0 < 256; omega
    · exact UInt8.toNat_lt _
  · show 0 < 256; omega
theorem one_any (g : Nat) (k : Int) (S : List UInt8) (w : World) (h : RdRF g k S w) :
    Calls Try.prog 24 #[.pointer (some ⟨g, 0, none⟩)] w fun e₁ w' => e₁ = .returned (.int .u8 ((oneK k S).1 : Int)) ∧ RdRF g (oneK k S).2.1 (oneK k S).2.2 w' ∧ Only g w w' := by
  obtain ⟨S', n, h1, hn, h2⟩ := h
  unfold oneK
  by_cases hk : k = 0
  · rw [if_pos hk]
    have e' := h2 hk
    subst e' hk
    cases S' with
    | nil =>
      have en : n = 0 := by
        obtain ⟨_, _, _, HN, _⟩ := h1
        exact HN.out.symm
      subst en
      refine (one_short g w h1).mono ?_
      rintro e₁ w1 ⟨rfl, h3, h4⟩
      exact ⟨rfl, ⟨[], 0, h3, by omega, fun h => absurd h (by decide)⟩, h4⟩
    | cons x r =>
      refine (one_ok g x r n w h1 hn).mono ?_
      rintro e₁ w1 ⟨rfl, h3, h4⟩
      exact ⟨rfl, ⟨r, n - 1, h3, by omega, fun _ => rfl⟩, h4⟩
  · rw [if_neg hk]
    obtain ⟨A, c, hR, _⟩ := id h1
    refine (one_bad g n A c k w hR hk).mono ?_
    rintro e₁ w' ⟨rfl, rfl⟩
    exact ⟨rfl, ⟨S', n, h1, hn, fun h => absurd h hk⟩, Only.refl g w⟩
/-- Next: the bytes, what is wrong, what is left. -/
def nextK (m : Nat) (k : Int) (S : List UInt8) : List UInt8 × Int × List UInt8 := if k = 0 then (if S.length < m then ([], 2, []) else (S.take m, 0, S.drop m)) else ([], k, [])
theorem next_any (g m : Nat) (k : Int) (S : List UInt8) (w : World) (h : RdRF g k S w) :
    Calls Try.prog 19 #[.pointer (some ⟨g, 0, none⟩), .int .i64 (m : Int)] w fun e₁ w' => ∃ A q c, e₁ = .returned (.slice A q c) ∧ Hid ((nextK m k S).1.length = q) ∧ q ≤ m ∧ q ≤ c ∧ Rd vB w' A (nextK m k S).1 ∧ RdRF g (nextK m k S).2.1 (nextK m k S).2.2 w' ∧ Only g w w' := by
  obtain ⟨S', n, h1, hn, h2⟩ := h
  unfold nextK
  by_cases hk : k = 0
  · rw [if_pos hk]
    have e' := h2 hk
    subst e' hk
    have hl : S'.length = n := by
      obtain ⟨_, _, _, HN, _⟩ := h1
      exact HN.out
    by_cases hm : S'.length < m
    · rw [if_pos hm]
      refine (next_short g S' n m w h1 (by omega)).mono ?_
      rintro e₁ w1 ⟨rfl, h3, h4⟩
      exact ⟨none, 0, 0, rfl, Lib.hid rfl, Nat.zero_le _, Nat.le_refl _, Rd.nil, ⟨S', n, h3, hn, fun h => absurd h (by decide)⟩, h4⟩
    · rw [if_neg hm]
      have hcap : ∃ c0 A0, Row w g 45 [.slice A0 n c0, .int .i64 0] ∧ n ≤ c0 := by
        obtain ⟨A0, c0, hR, _, hc, _⟩ := h1
        exact ⟨c0, A0, hR, hc⟩
      refine (next_ok g S' n m w h1 (by omega) hn).mono ?_
      rintro e₁ w1 ⟨A, c, rfl, hc1, h5, h3, h4⟩
      exact ⟨A, m, c, rfl, Lib.hid (by rw [List.length_take]; omega), Nat.le_refl _, hc1, h5, ⟨_, n - m, h3, by omega, fun _ => rfl⟩, h4⟩
  · rw [if_neg hk]
    obtain ⟨A, c, hR, _⟩ := id h1
    refine (next_bad g n A c k m w hR hk).mono ?_
    rintro e₁ w' ⟨rfl, rfl⟩
    exact ⟨none, 0, 0, rfl, Lib.hid rfl, Nat.zero_le _, Nat.le_refl _, Rd.nil, ⟨S', n, h1, hn, fun h => absurd h hk⟩, Only.refl g w⟩
/-- Number: eight bytes. -/
def num8K (k : Int) (S : List UInt8) : Nat × Int × List UInt8 := if k = 0 then (if S.length < 8 then (0, 2, []) else (valN (S.take 8), 0, S.drop 8)) else (0, k, [])
theorem num8_next (k : Int) (S : List UInt8) : num8K k S = ((getR (nextK 8 k S).1).1, (nextK 8 k S).2.1, (nextK 8 k S).2.2) := by
  unfold num8K nextK
  split
  · split
    · rfl
    · unfold getR
      rw [if_pos (by rw [List.length_take]; omega)]
  · rfl
/-- Nothing may be left. -/
def endK (k : Int) (S : List UInt8) : Int := if k = 0 ∧ S ≠ [] then 4 else k
/-! ### End -/
theorem endF_any (g : Nat) (k : Int) (S : List UInt8) (w : World) (h : RdRF g k S w) :
    Calls Try.prog 20 #[.pointer (some ⟨g, 0, none⟩)] w fun e₁ w' => e₁ = .returned (.tuple #[]) ∧ (∃ v, Row w' g 45 [v, .int .i64 (endK k S)]) ∧ Only g w w' := by
  obtain ⟨S', n, h1, hn, h2⟩ := h
  obtain ⟨A, c, hR, HN, hc, hr, hA⟩ := h1
  have c0 : w.cell? ⟨g, 0, none⟩ = some (.slice A n c) := hR.cell rfl
  by_cases h0 : n = 0
  · have hE : endK k S = k := by
      unfold endK
      rw [if_neg]
      rintro ⟨h3, h4⟩
      rw [← h2 h3] at h4
      exact h4 (List.eq_nil_of_length_eq_zero (HN.out.trans h0))
    rw [hE]
    have i0 : ¬ (0 : Int) < (n : Int) := by omega
    clear h0
    go_enter Try.func20, Try.ntmps20
    go_wp2_with fail
    first | go_end0 | refine bodyPost_ret (results_none rfl _ _ _) rfl ?_
    exact ⟨rfl, ⟨_, hR⟩, Only.refl g w⟩
  · have i0 : (0 : Int) < (n : Int) := by omega
    by_cases hk : k = 0
    · subst hk
      have hE : endK 0 S = 4 := by
        unfold endK
        rw [if_pos]
        refine ⟨rfl, fun h4 => h0 ?_⟩
        rw [← HN.out, h2 rfl, h4]
        rfl
      rw [hE]
      clear h0
      go_enter Try.func20, Try.ntmps20
      go_wp2_with fail
      refine (keep_ok g _ 4 w hR).mono ?_
      rintro e₁ w1 ⟨rfl, hR1, h3⟩
      go_wp2_with fail
      first | go_end0 | refine bodyPost_ret (results_none rfl _ _ _) rfl ?_
      exact ⟨rfl, ⟨_, hR1⟩, h3⟩
    · have hE : endK k S = k := if_neg (fun h => hk h.1)
      rw [hE]
      clear h0
      go_enter Try.func20, Try.ntmps20
      go_wp2_with fail
      refine (keep_bad g _ k 4 w hR hk).mono ?_
      rintro e₁ w1 ⟨rfl, rfl⟩
      go_wp2_with fail
      first | go_end0 | refine bodyPost_ret (results_none rfl _ _ _) rfl ?_
      exact ⟨rfl, ⟨_, hR⟩, Only.refl g w⟩
end Go.Proofs.Yteppocjgodmpdaa
/-
  What the program's Read of layer 12 does with its reader (landed code): its calls, one by one. No conditions but those typed.
-/
namespace Go.Proofs.Yteppocjgodmpdaa
set_option maxRecDepth 100000
open Go.RowKit
set_option linter.unusedSimpArgs false
set_option linter.unusedVariables false

/-! ### number -/
def nK (k : Int) (S : List UInt8) : Int × Nat × List UInt8 := if k = 0 then readN S else (k, 0, [])
theorem from_at (l : List UInt8) (n : Nat) (A : Option Addr) (cap : Nat) (w : World) (HN : Hid (l.length = n)) (hr : Rd vB w A l) (hl : n ≤ 9223372036854775807) (v : Nat) (k : Int) (HF : Hid (fromR l = (v, k))) :
    Calls Try.prog 26 #[.slice A n cap] w fun e w' => e = .returned (.tuple #[.int .u64 (v : Int), .int .i64 k]) ∧ w = w' := by
  have e := HN.out
  subst e
  have := from_any l A cap w hr hl
  rw [HF.out] at this
  exact this
theorem number_bad (g n : Nat) (A : Option Addr) (c : Nat) (k : Int) (w : World) (hR : Row w g 45 [.slice A n c, .int .i64 k]) (hk : k ≠ 0) :
    Calls Try.prog 17 #[.pointer (some ⟨g, 0, none⟩)] w fun e₁ w' => e₁ = .returned (.int .u64 0) ∧ w = w' := by
  go_enter Try.func17, Try.ntmps17
  go_wp2_with fail
  refine (one_bad g n A c k w hR hk).mono ?_
  rintro e₁ w1 ⟨rfl, rfl⟩
  go_wp2_with fail
  refine (next_bad g n A c k 0 w hR hk).mono ?_
  rintro e₁ w1 ⟨rfl, rfl⟩
  go_wp2_with fail
  refine (from_at [] 0 none 0 w (Lib.hid rfl) Rd.nil (by omega) 0 0 (Lib.hid rfl)).mono ?_
  rintro e₁ w1 ⟨rfl, rfl⟩
  go_wp2_with fail
  refine (keep_bad g _ k 0 w hR hk).mono ?_
  rintro e₁ w1 ⟨rfl, rfl⟩
  go_wp2_with fail
  go_ret
  exact ⟨rfl, rfl⟩
theorem number_empty (g : Nat) (w : World) (h : RdS g [] 0 0 w) :
    Calls Try.prog 17 #[.pointer (some ⟨g, 0, none⟩)] w fun e₁ w' => e₁ = .returned (.int .u64 0) ∧ RdS g [] 0 2 w' ∧ Only g w w' := by
  go_enter Try.func17, Try.ntmps17
  go_wp2_with fail
  refine (one_short g w h).mono ?_
  rintro e₁ w1 ⟨rfl, h1, h2⟩
  obtain ⟨A, c, hR, _⟩ := id h1
  go_wp2_with fail
  refine (next_bad g 0 A c 2 0 w1 hR (by decide)).mono ?_
  rintro e₁ w2 ⟨rfl, rfl⟩
  go_wp2_with fail
  refine (from_at [] 0 none 0 w1 (Lib.hid rfl) Rd.nil (by omega) 0 0 (Lib.hid rfl)).mono ?_
  rintro e₁ w2 ⟨rfl, rfl⟩
  go_wp2_with fail
  refine (keep_bad g _ 2 0 w1 hR (by decide)).mono ?_
  rintro e₁ w2 ⟨rfl, rfl⟩
  go_wp2_with fail
  go_ret
  exact ⟨rfl, h1, h2⟩
theorem number_long (g : Nat) (y : UInt8) (r : List UInt8) (n : Nat) (w : World) (h : RdS g (y :: r) n 0 w) (hn : n ≤ 1000000) (h8 : 8 < y.toNat) :
    Calls Try.prog 17 #[.pointer (some ⟨g, 0, none⟩)] w fun e₁ w' => e₁ = .returned (.int .u64 0) ∧ RdS g r (n - 1) 4 w' ∧ Only g w w' := by
  have hO := Lib.hid (one_ok g y r n w h hn)
  have hy := y.toNat_lt
  generalize y.toNat = m at h8 hO hy
  have m8 : (8 : Int) < (m : Int) := by omega
  have mw : IntKind.i64.wrap (m : Int) = (m : Int) := by rw [IntKind.wrap_i64]; omega
  go_enter Try.func17, Try.ntmps17
  go_wp2_with fail
  refine hO.out.mono ?_
  rintro e₁ w1 ⟨rfl, h1, h2⟩
  obtain ⟨A, c, hR, HN, hc, hr, hA⟩ := id h1
  go_wp2_with fail
  refine (keep_ok g _ 4 w1 hR).mono ?_
  rintro e₁ w2 ⟨rfl, hR2, h3⟩
  have h4 : RdS g r (n - 1) 4 w2 := ⟨A, c, hR2, HN, hc, hr.only h3 (lt_ne hA), hA⟩
  go_wp2_with fail
  refine (next_bad g _ A c 4 (m : Int) w2 hR2 (by decide)).mono ?_
  rintro e₁ w3 ⟨rfl, rfl⟩
  go_wp2_with fail
  refine (from_at [] 0 none 0 w2 (Lib.hid rfl) Rd.nil (by omega) 0 0 (Lib.hid rfl)).mono ?_
  rintro e₁ w3 ⟨rfl, rfl⟩
  go_wp2_with fail
  refine (keep_bad g _ 4 0 w2 hR2 (by decide)).mono ?_
  rintro e₁ w3 ⟨rfl, rfl⟩
  go_wp2_with fail
  go_ret
  exact ⟨rfl, h4, h2.trans h3⟩
theorem number_short (g : Nat) (y : UInt8) (r : List UInt8) (n : Nat) (w : World) (h : RdS g (y :: r) n 0 w) (hn : n ≤ 1000000) (h8 : ¬ 8 < y.toNat) (hs : n - 1 < y.toNat) :
    Calls Try.prog 17 #[.pointer (some ⟨g, 0, none⟩)] w fun e₁ w' => e₁ = .returned (.int .u64 0) ∧ RdS g r (n - 1) 2 w' ∧ Only g w w' := by
  have hO := Lib.hid (one_ok g y r n w h hn)
  have hy := y.toNat_lt
  generalize y.toNat = m at h8 hs hO hy
  have m8 : ¬ (8 : Int) < (m : Int) := by omega
  have mw : IntKind.i64.wrap (m : Int) = (m : Int) := by rw [IntKind.wrap_i64]; omega
  go_enter Try.func17, Try.ntmps17
  go_wp2_with fail
  refine hO.out.mono ?_
  rintro e₁ w1 ⟨rfl, h1, h2⟩
  go_wp2_with fail
  refine (next_short g r (n - 1) m w1 h1 hs).mono ?_
  rintro e₁ w2 ⟨rfl, h4, h3⟩
  obtain ⟨A, c, hR2, _⟩ := id h4
  go_wp2_with fail
  refine (from_at [] 0 none 0 w2 (Lib.hid rfl) Rd.nil (by omega) 0 0 (Lib.hid rfl)).mono ?_
  rintro e₁ w3 ⟨rfl, rfl⟩
  go_wp2_with fail
  refine (keep_bad g _ 2 0 w2 hR2 (by decide)).mono ?_
  rintro e₁ w3 ⟨rfl, rfl⟩
  go_wp2_with fail
  go_ret
  exact ⟨rfl, h4, h2.trans h3⟩
theorem number_ok (g : Nat) (y : UInt8) (r : List UInt8) (n : Nat) (w : World) (h : RdS g (y :: r) n 0 w) (hn : n ≤ 1000000) (h8 : ¬ 8 < y.toNat) (hs : ¬ n - 1 < y.toNat) (v : Nat) (k : Int) (HF : Hid (fromR (r.take y.toNat) = (v, k))) :
    Calls Try.prog 17 #[.pointer (some ⟨g, 0, none⟩)] w fun e₁ w' => e₁ = .returned (.int .u64 (v : Int)) ∧ RdS g (r.drop y.toNat) (n - 1 - y.toNat) k w' ∧ Only g w w' := by
  have hO := Lib.hid (one_ok g y r n w h hn)
  have hrl : r.length = n - 1 := by
    obtain ⟨_, _, _, HN, _⟩ := h
    have := HN.out
    rw [List.length_cons] at this
    omega
  have hy := y.toNat_lt
  generalize y.toNat = m at h8 hs hO hy HF ⊢
  have m8 : ¬ (8 : Int) < (m : Int) := by omega
  have mw : IntKind.i64.wrap (m : Int) = (m : Int) := by rw [IntKind.wrap_i64]; omega
  have HL : Hid ((r.take m).length = m) := by unfold Hid; rw [List.length_take]; omega
  clear hrl
  go_enter Try.func17, Try.ntmps17
  go_wp2_with fail
  refine hO.out.mono ?_
  rintro e₁ w1 ⟨rfl, h1, h2⟩
  go_wp2_with fail
  refine (next_ok g r (n - 1) m w1 h1 (by omega) (by omega)).mono ?_
  rintro e₁ w2 ⟨A2, c2, rfl, _, hr2, h4, h3⟩
  obtain ⟨A, c, hR2, HN, hc, hr, hA⟩ := id h4
  go_wp2_with fail
  refine (from_at (r.take m) m A2 c2 w2 HL hr2 (by omega) v k HF).mono ?_
  rintro e₁ w3 ⟨rfl, rfl⟩
  go_wp2_with fail
  refine (keep_ok g _ k w2 hR2).mono ?_
  rintro e₁ w3 ⟨rfl, hR3, h5⟩
  have h6 : RdS g (r.drop m) (n - 1 - m) k w3 := ⟨A, c, hR3, HN, hc, hr.only h5 (lt_ne hA), hA⟩
  go_wp2_with fail
  go_ret
  exact ⟨rfl, h6, (h2.trans h3).trans h5⟩
theorem number_any (g : Nat) (k : Int) (S : List UInt8) (w : World) (h : RdRF g k S w) :
    Calls Try.prog 17 #[.pointer (some ⟨g, 0, none⟩)] w fun e₁ w' => e₁ = .returned (.int .u64 ((nK k S).2.1 : Int)) ∧ RdRF g (nK k S).1 (nK k S).2.2 w' ∧ Only g w w' := by
  obtain ⟨S', n, h1, hn, h2⟩ := h
  unfold nK
  by_cases hk : k = 0
  · rw [if_pos hk]
    have e := h2 hk
    subst e hk
    cases S' with
    | nil =>
      have en : n = 0 := by
        obtain ⟨_, _, _, HN, _⟩ := h1
        exact HN.out.symm
      subst en
      refine (number_empty g w h1).mono ?_
      rintro e₁ w' ⟨rfl, h3, h4⟩
      exact ⟨rfl, ⟨[], 0, h3, by omega, fun h => absurd h (by decide)⟩, h4⟩
    | cons y r =>
      have hrl : r.length = n - 1 := by
        obtain ⟨_, _, _, HN, _⟩ := h1
        have := HN.out
        rw [List.length_cons] at this
        omega
      rw [readN_cons]
      by_cases h8 : 8 < y.toNat
      · rw [if_pos h8]
        refine (number_long g y r n w h1 hn h8).mono ?_
        rintro e₁ w' ⟨rfl, h3, h4⟩
        exact ⟨rfl, ⟨r, n - 1, h3, by omega, fun h => absurd h (by decide)⟩, h4⟩
      · rw [if_neg h8]
        by_cases hs : r.length < y.toNat
        · rw [if_pos hs]
          refine (number_short g y r n w h1 hn h8 (by omega)).mono ?_
          rintro e₁ w' ⟨rfl, h3, h4⟩
          exact ⟨rfl, ⟨r, n - 1, h3, by omega, fun h => absurd h (by decide)⟩, h4⟩
        · rw [if_neg hs]
          have hl8 : ¬ 8 < (r.take y.toNat).length := by rw [List.length_take]; omega
          by_cases h0 : 0 < y.toNat ∧ r.head? = some 0
          · rw [if_pos h0]
            have hf : fromR (r.take y.toNat) = (0, 3) := by
              unfold fromR
              rw [if_neg hl8, if_pos (by rw [List.head?_take, if_neg (by omega)]; exact h0.2)]
            refine (number_ok g y r n w h1 hn h8 (by omega) 0 3 hf).mono ?_
            rintro e₁ w' ⟨rfl, h3, h4⟩
            exact ⟨rfl, ⟨_, _, h3, by omega, fun h => absurd h (by decide)⟩, h4⟩
          · rw [if_neg h0]
            have hf : fromR (r.take y.toNat) = (valN (r.take y.toNat), 0) := by
              unfold fromR
              rw [if_neg hl8, if_neg]
              intro hh
              rcases Nat.eq_zero_or_pos y.toNat with hz | hp
              · rw [hz, List.take_zero] at hh
                simp at hh
              · rw [List.head?_take, if_neg (by omega)] at hh
                exact h0 ⟨hp, hh⟩
            refine (number_ok g y r n w h1 hn h8 (by omega) _ 0 hf).mono ?_
            rintro e₁ w' ⟨rfl, h3, h4⟩
            exact ⟨rfl, ⟨_, _, h3, by omega, fun _ => rfl⟩, h4⟩
  · rw [if_neg hk]
    obtain ⟨A, c, hR, _⟩ := id h1
    refine (number_bad g n A c k w hR hk).mono ?_
    rintro e₁ w' ⟨rfl, rfl⟩
    exact ⟨rfl, ⟨S', n, h1, hn, fun h => absurd h hk⟩, Only.refl g w⟩

/-! ### the Tag's bytes -/
def tagK (k : Int) (S : List UInt8) : Int × List UInt8 := if k = 0 then if S.length < 8 then (2, []) else (0, S.take 8) else (k, [])
theorem tag_any (g : Nat) (k : Int) (S : List UInt8) (w : World) (h : RdRF g k S w) :
    Calls Try.prog 19 #[.pointer (some ⟨g, 0, none⟩), .int .i64 8] w fun e₁ w' => (∃ A n c, e₁ = .returned (.slice A n c) ∧ Hid ((tagK k S).2.length = n) ∧ n ≤ 8 ∧ Rd vB w' A (tagK k S).2) ∧ RdRF g (tagK k S).1 (S.drop 8) w' ∧ Only g w w' := by
  obtain ⟨S', n, h1, hn, h2⟩ := h
  unfold tagK
  by_cases hk : k = 0
  · have e := h2 hk
    subst e hk
    rw [if_pos rfl]
    obtain ⟨A, c, hR, HN, hc, hr, hA⟩ := id h1
    by_cases h8 : n < 8
    · rw [if_pos (by rw [HN.out]; exact h8)]
      refine (next_short g S' n 8 w h1 h8).mono ?_
      rintro e₁ w1 ⟨rfl, h3, h4⟩
      exact ⟨⟨none, 0, 0, rfl, Lib.hid rfl, by omega, Rd.nil⟩, ⟨S', n, h3, hn, fun h => absurd h (by decide)⟩, h4⟩
    · rw [if_neg (by rw [HN.out]; exact h8)]
      refine (next_ok g S' n 8 w h1 (by omega) hn).mono ?_
      rintro e₁ w1 ⟨A1, c1, rfl, _, hr1, h3, h4⟩
      exact ⟨⟨A1, 8, c1, rfl, by unfold Hid; rw [List.length_take, HN.out]; omega, by omega, hr1⟩, ⟨_, _, h3, by omega, fun _ => rfl⟩, h4⟩
  · rw [if_neg hk]
    obtain ⟨A, c, hR, _⟩ := id h1
    refine (next_bad g n A c k 8 w hR hk).mono ?_
    rintro e₁ w' ⟨rfl, rfl⟩
    exact ⟨⟨none, 0, 0, rfl, Lib.hid rfl, by omega, Rd.nil⟩, ⟨S', n, h1, hn, fun h => absurd h hk⟩, Only.refl g w⟩

/-! ### the whole -/
theorem endK_bad {k : Int} (S : List UInt8) (h : k ≠ 0) : endK k S = k := if_neg (fun e => h e.1)
theorem nK_bad {k : Int} (S : List UInt8) (h : k ≠ 0) : nK k S = (k, 0, []) := if_neg h
theorem tagK_bad {k : Int} (S : List UInt8) (h : k ≠ 0) : tagK k S = (k, []) := if_neg h
/-- Step by step it is readF: its code; and all of it, where nothing is wrong. -/
theorem steps_read {b : List UInt8} {k0 k1 k2 k3 k4 : Int} {S0 S1 S2 S3 T : List UInt8} {t e c : Nat} (h0 : markK 87 b = (k0, S0)) (h1 : nK k0 S0 = (k1, t, S1)) (h2 : nK k1 S1 = (k2, e, S2)) (h3 : nK k2 S2 = (k3, c, S3)) (h4 : tagK k3 S3 = (k4, T)) :
    readF b = if endK k4 (S3.drop 8) = 0 then (0, t, e, c, T) else (endK k4 (S3.drop 8), 0, 0, 0, []) := by
  have bad : ∀ {k : Int} {S : List UInt8}, k ≠ 0 → (if endK k S = 0 then ((0 : Int), t, e, c, T) else (endK k S, 0, 0, 0, [])) = (k, 0, 0, 0, []) := fun {k S} h => by rw [endK_bad S h, if_neg h]
  have b4 : k3 ≠ 0 → k4 = k3 := fun h => by rw [tagK_bad _ h] at h4; exact (congrArg Prod.fst h4).symm
  have b3 : k2 ≠ 0 → k3 = k2 := fun h => by rw [nK_bad _ h] at h3; exact (congrArg Prod.fst h3).symm
  have b2 : k1 ≠ 0 → k2 = k1 := fun h => by rw [nK_bad _ h] at h2; exact (congrArg Prod.fst h2).symm
  have b1 : k0 ≠ 0 → k1 = k0 := fun h => by rw [nK_bad _ h] at h1; exact (congrArg Prod.fst h1).symm
  by_cases z0 : k0 = 0
  · subst z0
    cases b with
    | nil => simp [markK] at h0
    | cons x r =>
      have e0 : x = 87 ∧ r = S0 := by
        unfold markK at h0
        dsimp only at h0
        split at h0
        · simp at h0
        · rename_i hx
          exact ⟨Classical.byContradiction hx, congrArg Prod.snd h0⟩
      obtain ⟨rfl, rfl⟩ := e0
      rw [readF_cons, if_neg (by simp)]
      unfold nK at h1
      rw [if_pos rfl] at h1
      unfold readB
      rw [h1]
      by_cases z1 : k1 = 0
      · subst z1
        rw [if_pos rfl]
        unfold nK at h2
        rw [if_pos rfl] at h2
        unfold readE
        dsimp only
        rw [h2]
        by_cases z2 : k2 = 0
        · subst z2
          rw [if_pos rfl]
          unfold nK at h3
          rw [if_pos rfl] at h3
          unfold readC
          dsimp only
          rw [h3]
          by_cases z3 : k3 = 0
          · subst z3
            rw [if_pos rfl]
            unfold tagK at h4
            rw [if_pos rfl] at h4
            unfold readT
            dsimp only
            by_cases h8 : S3.length < 8
            · rw [if_pos h8] at h4 ⊢
              have ek : k4 = 2 := (congrArg Prod.fst h4).symm
              rw [ek, bad (by decide)]
            · rw [if_neg h8] at h4 ⊢
              have ek : k4 = 0 := (congrArg Prod.fst h4).symm
              have eT : T = S3.take 8 := (congrArg Prod.snd h4).symm
              rw [ek, eT]
              by_cases h9 : 8 < S3.length
              · rw [if_pos h9]
                have hE : endK 0 (S3.drop 8) = 4 := if_pos ⟨rfl, fun h => by have := congrArg List.length h; rw [List.length_drop, List.length_nil] at this; omega⟩
                rw [hE, if_neg (by decide)]
              · rw [if_neg h9]
                have hE : endK 0 (S3.drop 8) = 0 := if_neg (fun h => h.2 (List.drop_of_length_le (by omega)))
                rw [hE, if_pos rfl, List.take_of_length_le (by omega)]
          · rw [if_neg z3]
            rw [b4 z3, bad z3]
        · rw [if_neg z2]
          have e3 := b3 z2
          rw [b4 (by rw [e3]; exact z2), e3, bad z2]
      · rw [if_neg z1]
        have e2 := b2 z1
        have e3 := b3 (by rw [e2]; exact z1)
        rw [e2] at e3
        rw [b4 (by rw [e3]; exact z1), e3, bad z1]
  · have e1 := b1 z0
    have e2 := b2 (by rw [e1]; exact z0)
    rw [e1] at e2
    have e3 := b3 (by rw [e2]; exact z0)
    rw [e2] at e3
    rw [b4 (by rw [e3]; exact z0), e3, bad z0]
    cases b with
    | nil =>
      have e : (2 : Int) = k0 := congrArg Prod.fst h0
      rw [← e]
      rfl
    | cons x r =>
      rw [readF_cons]
      unfold markK at h0
      dsimp only at h0
      split at h0
      · rename_i hx
        rw [if_pos hx]
        have e : (3 : Int) = k0 := congrArg Prod.fst h0
        rw [← e]
      · exact absurd (congrArg Prod.fst h0).symm z0
end Go.Proofs.Yteppocjgodmpdaa
/-
  What the program's calls of layer 12 answer, over the landed code (rightP_any, writeP_ok, writeP_no, msgP_any: XFrameWr). No conditions but those typed.
-/
namespace Go.Proofs.Yteppocjgodmpdaa
set_option maxRecDepth 100000
open Go.RowKit
set_option linter.unusedSimpArgs false
set_option linter.unusedVariables false

theorem size_rd : (Try.prog.info? 45).map (·.size) = some 2 := by kernel_rfl
theorem one_twoF (a b : Value) (ha : a.oneCell' = true) (hb : b.oneCell' = true) : ∀ v ∈ [a, b], v.oneCell' = true := fun v hv => by
  simp at hv
  rcases hv with rfl | rfl <;> assumption
theorem cloneF (n : Nat) (b : List UInt8) (A : Option Addr) (c : Nat) (w : World) (HN : Hid (b.length = n)) (hr : Rd vB w A b) (hl : n ≤ 70368744177664) :
    Calls Try.prog 18 #[.slice A n c] w fun e w' => ∃ A' c', e = .returned (.slice A' n c') ∧ n ≤ c' ∧ Rd vB w' A' b ∧ (∀ a, A' = some a → w.heap.size ≤ a.block) ∧ Below w.heap.size w w' := by
  have e := HN.out
  subst e
  exact (clone_b b A c w hr hl).mono fun _ _ h => h
def codeP (g : Nat) (k : Int) (W : World) : Prop := W.cell? ⟨g, 1, none⟩ = some (.int .i64 k) ∧ True

set_option maxRecDepth 100000 in
set_option maxHeartbeats 4000000 in
theorem readP_any (b : List UInt8) (n : Nat) (A : Option Addr) (c : Nat) (w : World) (HN : Hid (b.length = n)) (hr : Rd vB w A b) (hc : n ≤ c) (hn : n ≤ 100000) :
    Calls Try.prog 8 #[.slice A n c] w (RetPay w (readF b)) := by
  obtain ⟨k0, S0, H0⟩ : ∃ k S, markK 87 b = (k, S) := ⟨_, _, rfl⟩
  obtain ⟨k1, x1, S1, H1⟩ : ∃ k x S, nK k0 S0 = (k, x, S) := ⟨_, _, _, rfl⟩
  obtain ⟨k2, x2, S2, H2⟩ : ∃ k x S, nK k1 S1 = (k, x, S) := ⟨_, _, _, rfl⟩
  obtain ⟨k3, x3, S3, H3⟩ : ∃ k x S, nK k2 S2 = (k, x, S) := ⟨_, _, _, rfl⟩
  obtain ⟨k4, T, H4⟩ : ∃ k S, tagK k3 S3 = (k, S) := ⟨_, _, rfl⟩
  have HF := steps_read H0 H1 H2 H3 H4
  obtain ⟨k5, H5⟩ : ∃ k, endK k4 (S3.drop 8) = k := ⟨_, rfl⟩
  rw [H5] at HF
  obtain ⟨F, hF⟩ : ∃ F, readF b = F := ⟨_, rfl⟩
  rw [hF] at HF ⊢
  clear hF
  replace HF := Lib.hid HF
  replace H0 := Lib.hid H0
  replace H1 := Lib.hid H1
  replace H2 := Lib.hid H2
  replace H3 := Lib.hid H3
  replace H4 := Lib.hid H4
  replace H5 := Lib.hid H5
  obtain ⟨hR0, hB0⟩ := box_pay w 25 (.int .u64 0) (.int .u64 0) (.int .u64 0) (.slice none 0 0)
  go_enter Try.func8, Try.ntmps8
  go_upto_region 1 with fail
  generalize (w.alloc (.cells #[.int .u64 0, .int .u64 0, .int .u64 0, .slice none 0 0] 25)) = W0 at hR0 hB0 ⊢
  have hgl := hR0.lt
  have hRs : Row (W0.alloc (.cells #[.slice A n c, .int .i64 0] 45)) W0.heap.size 45 [.slice A n c, .int .i64 0] := Row.new W0 _ _ _ rfl
  have hb2 := below_new (Below.refl W0.heap.size W0) (.cells #[.slice A n c, .int .i64 0] 45)
  go_upto_region 2 with fail
  replace hr := (hr.keep hB0)
  have hA : b ≠ [] → ∀ a, A = some a → a.block < W0.heap.size := hr.off
  replace hr := hr.keep hb2
  replace hR0 := hR0.later hb2
  replace hB0 := below_step hB0 hb2
  generalize (W0.alloc (.cells #[.slice A n c, .int .i64 0] 45)) = W1 at hr hR0 hRs hB0 ⊢
  clear hb2
  generalize W0.heap.size = g1 at hgl hRs hA ⊢
  have hS : RdS g1 b n 0 W1 := ⟨A, c, hRs, HN, hc, hr, hA⟩
  have hg1 := hRs.lt
  clear hRs hr hA
  have hle : w.heap.size ≤ g1 := by omega
  have hne : w.heap.size ≠ g1 := by omega
  have hRq : Row (W1.alloc (.cells #[.int .u64 0, .int .u64 0, .int .u64 0, .slice none 0 0] 25)) W1.heap.size 25 [.int .u64 0, .int .u64 0, .int .u64 0, .slice none 0 0] := Row.new W1 _ _ _ rfl
  have hbn := below_new (Below.refl W1.heap.size W1) (.cells #[.int .u64 0, .int .u64 0, .int .u64 0, .slice none 0 0] 25)
  have hS1 : RdS g1 b n 0 (W1.alloc (.cells #[.int .u64 0, .int .u64 0, .int .u64 0, .slice none 0 0] 25)) := by
    obtain ⟨A', c', h1, h2, h3, h4, h5⟩ := hS
    exact ⟨A', c', h1.later hbn, h2, h3, h4.keep hbn, h5⟩
  replace hR0 := hR0.later hbn
  replace hB0 := below_step hB0 hbn
  go_upto_region 3 with fail
  generalize W1.alloc (.cells #[.int .u64 0, .int .u64 0, .int .u64 0, .slice none 0 0] 25) = W2 at hS1 hR0 hB0 hRq ⊢
  clear hbn hS
  generalize W1.heap.size = g2 at hg1 hRq ⊢
  have hn2 : g2 ≠ g1 := by omega
  have hn3 : g2 ≠ w.heap.size := by omega
  have hn4 : w.heap.size ≠ g2 := by omega
  have hl2 : w.heap.size ≤ g2 := by omega
  go_wp2_with fail
  refine (mark_any 87 87 rfl (by decide) g1 b n W2 hS1 (by omega)).mono ?_
  rw [H0.out]
  rintro e₁ W3 ⟨rfl, hT, hO⟩
  dsimp only at hT
  replace hR0 := hR0.only hO hne
  replace hRq := hRq.only hO hn2
  replace hB0 := hB0.trans (hO.below.mono hle)
  clear hO hS1
  go_wp2_with fail
  refine (number_any g1 k0 S0 W3 hT).mono ?_
  rw [H1.out]
  rintro e₁ w4 ⟨rfl, hT4, hO⟩
  dsimp only at hT4 ⊢
  replace hR0 := hR0.only hO hne
  replace hRq := hRq.only hO hn2
  replace hB0 := hB0.trans (hO.below.mono hle)
  clear hO hT
  have f0 := hRq.frozen 0
  have hT5 := hT4.below ((Below.refl _ w4).setCell (p := ⟨g2, 0, none⟩) (show g1 + 1 ≤ g2 by omega) (.int .u64 (x1 : Int)))
  have hR5 := hR0.setCell_other (p := ⟨g2, 0, none⟩) hn4 (.int .u64 (x1 : Int))
  have hRq5 := hRq.setCell 0 (.int .u64 (x1 : Int))
  have hB5 := hB0.setCell (p := ⟨g2, 0, none⟩) hl2 (.int .u64 (x1 : Int))
  have c0 : w4.cell? ⟨g2, 0, none⟩ = some (.int .u64 0) := hRq.cell rfl
  clear hT4 hR0 hRq hB0
  have hQ5 : Row (w4.setCell ⟨g2, 0, none⟩ (.int .u64 (x1 : Int))) g2 25 [.int .u64 (x1 : Int), .int .u64 0, .int .u64 0, .slice none 0 0] := hRq5
  go_upto_region 5 with fail
  generalize w4.setCell ⟨g2, 0, none⟩ (.int .u64 (x1 : Int)) = W5 at hT5 hR5 hQ5 hB5 ⊢
  clear hRq5 c0 f0
  go_wp2_with fail
  refine (number_any g1 k1 S1 W5 hT5).mono ?_
  rw [H2.out]
  rintro e₁ w6 ⟨rfl, hT6, hO⟩
  dsimp only at hT6 ⊢
  have hR6 := hR5.only hO hne
  have hQ6 := hQ5.only hO hn2
  have hB6 := hB5.trans (hO.below.mono hle)
  clear hO hT5 hR5 hQ5 hB5
  have f0 := hQ6.frozen 1
  have hT7 := hT6.below ((Below.refl _ w6).setCell (p := ⟨g2, 1, none⟩) (show g1 + 1 ≤ g2 by omega) (.int .u64 (x2 : Int)))
  have hR7 := hR6.setCell_other (p := ⟨g2, 1, none⟩) hn4 (.int .u64 (x2 : Int))
  have hQ7 : Row (w6.setCell ⟨g2, 1, none⟩ (.int .u64 (x2 : Int))) g2 25 [.int .u64 (x1 : Int), .int .u64 (x2 : Int), .int .u64 0, .slice none 0 0] := hQ6.setCell 1 (.int .u64 (x2 : Int))
  have hB7 := hB6.setCell (p := ⟨g2, 1, none⟩) hl2 (.int .u64 (x2 : Int))
  have c0 : w6.cell? ⟨g2, 1, none⟩ = some (.int .u64 0) := hQ6.cell rfl
  clear hT6 hR6 hQ6 hB6
  go_upto_region 6 with fail
  generalize w6.setCell ⟨g2, 1, none⟩ (.int .u64 (x2 : Int)) = W7 at hT7 hR7 hQ7 hB7 ⊢
  clear c0 f0
  go_wp2_with fail
  refine (number_any g1 k2 S2 W7 hT7).mono ?_
  rw [H3.out]
  rintro e₁ w8 ⟨rfl, hT8, hO⟩
  dsimp only at hT8 ⊢
  have hR8 := hR7.only hO hne
  have hQ8 := hQ7.only hO hn2
  have hB8 := hB7.trans (hO.below.mono hle)
  clear hO hT7 hR7 hQ7 hB7
  have f0 := hQ8.frozen 2
  have hT9 := hT8.below ((Below.refl _ w8).setCell (p := ⟨g2, 2, none⟩) (show g1 + 1 ≤ g2 by omega) (.int .u64 (x3 : Int)))
  have hR9 := hR8.setCell_other (p := ⟨g2, 2, none⟩) hn4 (.int .u64 (x3 : Int))
  have hQ9 : Row (w8.setCell ⟨g2, 2, none⟩ (.int .u64 (x3 : Int))) g2 25 [.int .u64 (x1 : Int), .int .u64 (x2 : Int), .int .u64 (x3 : Int), .slice none 0 0] := hQ8.setCell 2 (.int .u64 (x3 : Int))
  have hB9 := hB8.setCell (p := ⟨g2, 2, none⟩) hl2 (.int .u64 (x3 : Int))
  have c0 : w8.cell? ⟨g2, 2, none⟩ = some (.int .u64 0) := hQ8.cell rfl
  clear hT8 hR8 hQ8 hB8
  go_upto_region 7 with fail
  generalize w8.setCell ⟨g2, 2, none⟩ (.int .u64 (x3 : Int)) = W9 at hT9 hR9 hQ9 hB9 ⊢
  clear c0 f0
  go_wp2_with fail
  refine (tag_any g1 k3 S3 W9 hT9).mono ?_
  rw [H4.out]
  rintro e₁ w10 ⟨⟨A10, n10, c10, rfl, HN10, hn10, hr10⟩, hT10, hO⟩
  dsimp only at hT10 HN10 hr10 ⊢
  have hR10 := hR9.only hO hne
  have hQ10 := hQ9.only hO hn2
  have hB10 := hB9.trans (hO.below.mono hle)
  have hg10 := hQ10.lt
  clear hO hT9 hR9 hQ9 hB9
  go_wp2_with fail
  refine (cloneF n10 T A10 c10 w10 HN10 hr10 (by omega)).mono ?_
  rintro e₁ w11 ⟨A11, c11, rfl, hc11, hr11, hA11, hb⟩
  have hT11 := hT10.below (hb.mono (by omega))
  have hR11 := hR10.later hb
  have hQ11 := hQ10.later hb
  have hB11 := below_step hB10 hb
  have HA11 : Hid (∀ a, A11 = some a → g2 < a.block) := fun a ha => Nat.lt_of_lt_of_le hg10 (hA11 a ha)
  clear hb hT10 hR10 hQ10 hB10 hr10 hA11
  have f0 := hQ11.frozen 3
  have hT12 := hT11.below ((Below.refl _ w11).setCell (p := ⟨g2, 3, none⟩) (show g1 + 1 ≤ g2 by omega) (.slice A11 n10 c11))
  have hR12 := hR11.setCell_other (p := ⟨g2, 3, none⟩) hn4 (.slice A11 n10 c11)
  have hQ12 : Row (w11.setCell ⟨g2, 3, none⟩ (.slice A11 n10 c11)) g2 25 [.int .u64 (x1 : Int), .int .u64 (x2 : Int), .int .u64 (x3 : Int), .slice A11 n10 c11] := hQ11.setCell 3 (.slice A11 n10 c11)
  have hB12 := hB11.setCell (p := ⟨g2, 3, none⟩) hl2 (.slice A11 n10 c11)
  have hr12 := hr11.only ((Only.refl g2 w11).setCell 3 (.slice A11 n10 c11)) (fun _ a ha => by have := HA11.out a ha; omega)
  have c0 : w11.cell? ⟨g2, 3, none⟩ = some (.slice none 0 0) := hQ11.cell rfl
  clear hT11 hR11 hQ11 hB11 hr11
  go_upto_region 8 with fail
  generalize w11.setCell ⟨g2, 3, none⟩ (.slice A11 n10 c11) = W12 at hT12 hR12 hQ12 hB12 hr12 ⊢
  clear c0 f0
  go_wp2_with fail
  refine (endF_any g1 k4 (S3.drop 8) W12 hT12).mono ?_
  rw [H5.out]
  rintro e₁ w13 ⟨rfl, ⟨v13, hRd⟩, hO⟩
  have hR13 := hR12.only hO hne
  have hQ13 := hQ12.only hO hn2
  have hB13 := hB12.trans (hO.below.mono hle)
  have hr13 := hr12.only hO (fun _ a ha => by have := HA11.out a ha; omega)
  have cd : w13.cell? ⟨g1, 1, none⟩ = some (.int .i64 k5) := hRd.cell rfl
  clear hO hT12 hR12 hQ12 hB12 hr12
  go_upto_region 9 with fail
  by_cases h5 : k5 = 0
  · subst h5
    have eF : (0, x1, x2, x3, T) = F := by rw [HF.out, if_pos rfl]
    subst eF
    go_wp2_with (first
      | (refine wpList_load_part rfl 25 (.tmp 5) rfl g2 0 rfl _ _ hQ13 [.int .u64 (x1 : Int), .int .u64 (x2 : Int), .int .u64 (x3 : Int), .slice A11 n10 c11] (by rfl) _ Try.underlying25 rfl (by exact size_pay') ?_)
      | (refine wpList_store_row rfl 25 (.tmp 2) (.tmp 36) rfl w.heap.size rfl [.int .u64 (x1 : Int), .int .u64 (x2 : Int), .int .u64 (x3 : Int), .slice A11 n10 c11] rfl _ _ hR13 (by exact size_pay') rfl (one_four _ _ _ _ rfl rfl rfl rfl) ?_))
    refine bodyPost_ret (results_row_tmp (p := 2) (u := 3) (ty := 25) (by rfl) _ _ w.heap.size 25 _ _ (by rfl) (by exact hR13.setRow _) Try.underlying25 (by rfl) (by exact size_pay')) (by rfl) ?_
    exact ⟨A11, n10, c11, rfl, HN10, hc11, hr13.setRow _ (fun a ha => by have := HA11.out a ha; omega), below_setRow hB13 (Nat.le_refl _) _⟩
  · have h50 : (k5 == 0) = false := beq_eq_false_iff_ne.2 h5
    have h51 : (k5 != 0) = true := by rw [bne, h50]; rfl
    have eF : (k5, 0, 0, 0, []) = F := by rw [HF.out, if_neg h5]
    subst eF
    go_upto_region 10 with fail
    have hS : codeP g1 k5 w13.drew := ⟨cd, trivial⟩
    have hR14 := hR13.drew
    have hB14 := hB13.drew
    refine wp_region_plan_of (codeP g1 k5) (.step 0 false (.step 1 false (.step 2 false (.step 3 false (.step 4 false (.step 5 true (.step 6 false (.nil)))))))) hS (by kernel_rfl) (by kernel_rfl) (by rfl) (by kernel_rfl) ?_
    clear hR13 hB13 cd hQ13 hr13 hRd
    generalize w13.drew = wv at *
    iterate 5 (refine plan_read rfl (by rfl) (v := ?_) ?_ ?_; rotate_left 1; (intro W hW; (try dsimp only at hW); obtain ⟨hW0, hW1⟩ := hW; go_simp <;> with_reducible rfl); simp only [List.getElem_toArray, List.getElem_cons_zero, List.getElem_cons_succ, Act.put, List.setIfInBounds_toArray, List.set_cons_zero, List.set_cons_succ])
    have hcs : ∀ (cs : Array Value), (wv.setRow w.heap.size cs).cell? ⟨g1, 1, none⟩ = wv.cell? ⟨g1, 1, none⟩ := fun cs => cell_setRow_other wv w.heap.size cs ⟨g1, 1, none⟩ (show g1 ≠ w.heap.size by omega)
    refine plan_make_of rfl (by rfl) (fun K hK => ?_)
    refine hR14.wp_store 25 (.tmp 2) (.tmp 31) rfl rfl [.int .u64 0, .int .u64 0, .int .u64 0, .slice none 0 0] rfl (by exact size_pay') rfl (one_four _ _ _ _ rfl rfl rfl rfl) ?_
    refine hK.out _ _ ⟨(hcs _).trans hS.1, trivial⟩ ?_
    clear hK K hcs
    simp only [List.getElem_toArray, List.getElem_cons_zero, List.getElem_cons_succ, Act.put, List.setIfInBounds_toArray, List.set_cons_zero, List.set_cons_succ]
    iterate 1 (refine plan_read rfl (by rfl) (v := ?_) ?_ ?_; rotate_left 1; (intro W hW; (try dsimp only at hW); obtain ⟨hW0, hW1⟩ := hW; go_simp <;> with_reducible rfl); simp only [List.getElem_toArray, List.getElem_cons_zero, List.getElem_cons_succ, Act.put, List.setIfInBounds_toArray, List.set_cons_zero, List.set_cons_succ])
    refine plan_done ?_
    go_wp2_with fail
    refine bodyPost_ret (results_row_tmp (p := 2) (u := 3) (ty := 25) (by rfl) _ _ w.heap.size 25 _ _ (by rfl) (by exact hR14.setRow _) Try.underlying25 (by rfl) (by exact size_pay')) (by rfl) ?_
    exact ⟨none, 0, 0, rfl, Lib.hid rfl, Nat.le_refl _, Rd.nil, below_setRow hB14 (Nat.le_refl _) _⟩
end Go.Proofs.Yteppocjgodmpdaa
/-
  A literal's bytes, converted to their own type: a row with a frozen mark reads as the bytes did (no program is named here). No conditions but those typed.
-/
namespace Go.Proofs.Yteppocjgodmpdaa
set_option maxRecDepth 100000
open Go.RowKit

theorem Rd.new_fr {α : Type} {f : α → Value} (w : World) (g : Nat) (hg : g = w.heap.size) (l : List α) (cs : Array Value) (e : TypeId) (fr : Nat × Nat) (h : cs = (l.map f).toArray) : Rd f (w.alloc (.cells cs e fr)) (some ⟨g, 0, none⟩) l := fun _ => by
  subst hg
  refine ⟨w.heap.size, 0, rfl, fun i hi => ?_⟩
  subst h
  rw [cell_of_row _ w.heap.size (0 + i) _ e fr (heap_alloc_new w _)]
  simp [hi]
end Go.Proofs.Yteppocjgodmpdaa
/-
  What the call awake of layer 12's statements answers: true. No conditions.
-/
namespace Go.Proofs.Yteppocjgodmpdaa
set_option maxRecDepth 100000
open Go.RowKit
set_option linter.unusedSimpArgs false
set_option linter.unusedVariables false

def tag8 : List UInt8 := [49, 50, 51, 52, 53, 54, 55, 56]
theorem aw_write : writeF 258 1 0 tag8 = [87, 2, 1, 2, 1, 1, 0, 49, 50, 51, 52, 53, 54, 55, 56] := by decide +kernel
theorem aw_read : readF [87, 2, 1, 2, 1, 1, 0, 49, 50, 51, 52, 53, 54, 55, 56] = (0, 258, 1, 0, tag8) := by decide +kernel
theorem aw_long : readF [87, 2, 1, 2, 1, 1, 0, 49, 50, 51, 52, 53, 54, 55, 56, 0] = (4, 0, 0, 0, []) := by decide +kernel
theorem aw_same : sameF 258 1 0 tag8 258 1 0 tag8 = true := by decide +kernel
theorem aw_msg : (msgF 1 2 3).length = 25 ∧ (msgF 1 2 3)[24]? = some 3 := by decide +kernel

set_option maxRecDepth 100000 in
set_option maxHeartbeats 4000000 in
theorem awake12_any (w : World) : Calls Try.prog 5 #[] w fun e w' => e = .returned (.bool true) ∧ Below w.heap.size w w' := by
  obtain ⟨i8, hi8, hy0, hy1, hy2⟩ := info_parts info_u8
  go_enter Try.func5, Try.ntmps5
  have hcv := Lib.run_convert_bytes_const (P := Try.prog) w 23 5 #[.int .u8 49, .int .u8 50, .int .u8 51, .int .u8 52, .int .u8 53, .int .u8 54, .int .u8 55, .int .u8 56] 8 8 Try.underlying23 Try.underlying5
  have hrt := Rd.new_fr (f := vB) w _ rfl tag8 #[.int .u8 49, .int .u8 50, .int .u8 51, .int .u8 52, .int .u8 53, .int .u8 54, .int .u8 55, .int .u8 56] 5 (8, 9) rfl
  have hR0 : Row ((w.alloc (.cells #[.int .u8 49, .int .u8 50, .int .u8 51, .int .u8 52, .int .u8 53, .int .u8 54, .int .u8 55, .int .u8 56] 5 (8, 9))).alloc (.cells #[.int .u64 0, .int .u64 0, .int .u64 0, .slice none 0 0] 25)) (w.heap.size + 1) 25 [.int .u64 0, .int .u64 0, .int .u64 0, .slice none 0 0] := Row.new_at _ _ (by simp) _ _ _ rfl
  go_upto_region 2 with (refine wpList_store_row rfl 25 (.tmp 1) (.tmp 10) rfl (w.heap.size + 1) rfl [.int .u64 258, .int .u64 1, .int .u64 0, .slice (some ⟨w.heap.size, 0, none⟩) 8 8] rfl _ _ hR0 (by exact size_pay) rfl (one_four _ _ _ _ rfl rfl rfl rfl) ?_)
  have hRp := hR0.setRow [.int .u64 258, .int .u64 1, .int .u64 0, .slice (some ⟨w.heap.size, 0, none⟩) 8 8]
  have hB1 := below_new (Below.refl w.heap.size w) (.cells #[.int .u8 49, .int .u8 50, .int .u8 51, .int .u8 52, .int .u8 53, .int .u8 54, .int .u8 55, .int .u8 56] 5 (8, 9))
  have hs1 : (w.alloc (.cells #[.int .u8 49, .int .u8 50, .int .u8 51, .int .u8 52, .int .u8 53, .int .u8 54, .int .u8 55, .int .u8 56] 5 (8, 9))).heap.size = w.heap.size + 1 := by simp
  generalize w.alloc (.cells #[.int .u8 49, .int .u8 50, .int .u8 51, .int .u8 52, .int .u8 53, .int .u8 54, .int .u8 55, .int .u8 56] 5 (8, 9)) = W1 at hrt hR0 hRp hB1 hs1 ⊢
  have hb2 : Below W1.heap.size W1 ((W1.alloc (.cells #[.int .u64 0, .int .u64 0, .int .u64 0, .slice none 0 0] 25)).setRow (w.heap.size + 1) [.int .u64 258, .int .u64 1, .int .u64 0, .slice (some ⟨w.heap.size, 0, none⟩) 8 8].toArray) := below_setRow (below_new (Below.refl _ _) _) (by omega) _
  replace hrt := hrt.keep hb2
  have hB := below_step hB1 hb2
  generalize (W1.alloc (.cells #[.int .u64 0, .int .u64 0, .int .u64 0, .slice none 0 0] 25)).setRow (w.heap.size + 1) [.int .u64 258, .int .u64 1, .int .u64 0, .slice (some ⟨w.heap.size, 0, none⟩) 8 8].toArray = W2 at hrt hRp hB ⊢
  clear hcv hR0 hB1 hs1 hb2
  go_wp2_with (refine wpList_load_part rfl 25 (.tmp 1) rfl (w.heap.size + 1) 0 rfl _ _ hRp [.int .u64 258, .int .u64 1, .int .u64 0, .slice (some ⟨w.heap.size, 0, none⟩) 8 8] (by rfl) _ Try.underlying25 rfl (by exact size_pay) ?_)
  refine (writeP_ok 258 1 0 tag8 _ 8 _ (by omega) (by omega) (by omega) (Lib.hid rfl) hrt (Nat.le_refl _)).mono ?_
  rintro e w1 ⟨A1, n1, c1, rfl, HN1, hc1, hr1, hb⟩
  rw [aw_write] at HN1 hr1
  have en1 : n1 = 15 := HN1.out.symm
  subst en1
  replace hrt := hrt.keep hb
  replace hRp := hRp.later hb
  replace hB := below_step hB hb
  clear hb
  go_upto_region 3 with fail
  go_wp2_with fail
  refine (readP_any [87, 2, 1, 2, 1, 1, 0, 49, 50, 51, 52, 53, 54, 55, 56] 15 A1 c1 _ (Lib.hid rfl) hr1 hc1 (by omega)).mono ?_
  rw [aw_read]
  rintro e w3 ⟨A3, n3, c3, rfl, HN3, hc3, hr3, hb⟩
  have en3 : n3 = 8 := HN3.out.symm
  subst en3
  have hr3' : Rd vB w3 A3 tag8 := hr3
  replace hrt := hrt.keep hb
  replace hr1 := hr1.keep hb
  replace hRp := hRp.later hb
  replace hB := below_step hB hb
  clear hb hr3 HN3
  have hR0 : Row (w3.alloc (.cells #[.int .u64 0, .int .u64 0, .int .u64 0, .slice none 0 0] 25)) w3.heap.size 25 [.int .u64 0, .int .u64 0, .int .u64 0, .slice none 0 0] := Row.new w3 _ _ _ rfl
  go_upto_region 4 with (refine wpList_store_row rfl 25 (.tmp 4) (.tmp 19) rfl w3.heap.size rfl [.int .u64 258, .int .u64 1, .int .u64 0, .slice A3 8 c3] rfl _ _ hR0 (by exact size_pay) rfl (one_four _ _ _ _ rfl rfl rfl rfl) ?_)
  have hRq := hR0.setRow [.int .u64 258, .int .u64 1, .int .u64 0, .slice A3 8 c3]
  have hb2 : Below w3.heap.size w3 ((w3.alloc (.cells #[.int .u64 0, .int .u64 0, .int .u64 0, .slice none 0 0] 25)).setRow w3.heap.size [.int .u64 258, .int .u64 1, .int .u64 0, .slice A3 8 c3].toArray) := below_setRow (below_new (Below.refl _ _) _) (Nat.le_refl _) _
  replace hrt := hrt.keep hb2
  replace hr1 := hr1.keep hb2
  replace hr3' := hr3'.keep hb2
  replace hRp := hRp.later hb2
  replace hB := below_step hB hb2
  generalize (w3.alloc (.cells #[.int .u64 0, .int .u64 0, .int .u64 0, .slice none 0 0] 25)).setRow w3.heap.size [.int .u64 258, .int .u64 1, .int .u64 0, .slice A3 8 c3].toArray = w4 at hrt hr1 hr3' hRp hRq hB ⊢
  clear hR0 hb2
  generalize w3.heap.size = gq at hRq ⊢
  have hown0 : (w4.alloc (.cells #[] 5)).ownsRow w4.heap.size 5 1 (.slice (some ⟨w4.heap.size, 0, none⟩) 0 0) 0 [] := World.ownsRow_made w4 #[] 0 (Nat.le_refl _) (by unfold maxLen; omega) rfl
  have hbn := below_new (Below.refl w4.heap.size w4) (.cells #[] 5)
  have hrn := hr1.keep hbn
  go_wp2_with (at_builtin; first
    | (refine wpList_append_rd _ rfl (.tmp 22) (.tmp 23) 23 rfl w4.heap.size 5 i8 (.int .u8 0) 1 Try.underlying23 hi8 hy0 hy1 hy2 rfl _ _ _ rfl hown0 A1 [87, 2, 1, 2, 1, 1, 0, 49, 50, 51, 52, 53, 54, 55, 56] c1 rfl hrn vB_one (by unfold maxLen; simp) (by simp) (by simp) ?_; intro v5 w5 hown5 hgrow5)
    | (refine wpList_append_own _ rfl (.tmp 24) (.tmp 25) 23 rfl w4.heap.size 5 i8 (.int .u8 0) 1 1 Try.underlying23 hi8 hy0 hy1 hy2 rfl (by decide) _ _ _ rfl (hown5.alloc _) ⟨w5.heap.size, 0, none⟩ 1 1 [.int .u8 0] rfl rfl (cell_one_new _ _ _) (by intro u hu; simp at hu; subst hu; rfl) (by unfold maxLen; simp) (by simp) (by have := hgrow5.size; simp at this ⊢; omega) ?_; intro v6 w6 hown6 hgrow6 _))
  have hb5 : Below w4.heap.size w4 w5 := hbn.grown hgrow5 (by simp) (fun k hk => (hown0.lt k hk).1)
  have hb6 : Below w4.heap.size w4 w6 := (hb5.alloc hb5.size _).grown hgrow6 (by have := hb5.size; simp; omega) (fun k hk => (hown5.lt k hk).1)
  have hown7 : w6.ownsRow w4.heap.size 5 1 v6 ([87, 2, 1, 2, 1, 1, 0, 49, 50, 51, 52, 53, 54, 55, 56, 0] : List UInt8).length (([87, 2, 1, 2, 1, 1, 0, 49, 50, 51, 52, 53, 54, 55, 56, 0] : List UInt8).map vB) := hown6
  obtain ⟨A6, c6, rfl, hc6, hr6⟩ := own_slice hown7
  replace hrt := hrt.keep hb6
  replace hr1 := hr1.keep hb6
  replace hr3' := hr3'.keep hb6
  replace hRp := hRp.later hb6
  replace hRq := hRq.later hb6
  replace hB := below_step hB hb6
  clear hown0 hbn hrn hown5 hgrow5 hown6 hgrow6 hb5 hb6 hown7
  refine (readP_any [87, 2, 1, 2, 1, 1, 0, 49, 50, 51, 52, 53, 54, 55, 56, 0] 16 A6 c6 _ (Lib.hid rfl) hr6 hc6 (by omega)).mono ?_
  rw [aw_long]
  rintro e w7 ⟨A7, n7, c7, rfl, HN7, hc7, hr7, hb⟩
  have en7 : n7 = 0 := HN7.out.symm
  subst en7
  replace hrt := hrt.keep hb
  replace hr1 := hr1.keep hb
  replace hr3' := hr3'.keep hb
  replace hRp := hRp.later hb
  replace hRq := hRq.later hb
  replace hB := below_step hB hb
  clear hb hr7 HN7 hr6
  have hR0 : Row (w7.alloc (.cells #[.int .u64 0, .int .u64 0, .int .u64 0, .slice none 0 0] 25)) w7.heap.size 25 [.int .u64 0, .int .u64 0, .int .u64 0, .slice none 0 0] := Row.new w7 _ _ _ rfl
  go_upto_region 5 with (refine wpList_store_row rfl 25 (.tmp 6) (.tmp 28) rfl w7.heap.size rfl [.int .u64 0, .int .u64 0, .int .u64 0, .slice A7 0 c7] rfl _ _ hR0 (by exact size_pay) rfl (one_four _ _ _ _ rfl rfl rfl rfl) ?_)
  have hb2 : Below w7.heap.size w7 ((w7.alloc (.cells #[.int .u64 0, .int .u64 0, .int .u64 0, .slice none 0 0] 25)).setRow w7.heap.size [.int .u64 0, .int .u64 0, .int .u64 0, .slice A7 0 c7].toArray) := below_setRow (below_new (Below.refl _ _) _) (Nat.le_refl _) _
  replace hrt := hrt.keep hb2
  replace hr1 := hr1.keep hb2
  replace hr3' := hr3'.keep hb2
  replace hRp := hRp.later hb2
  replace hRq := hRq.later hb2
  replace hB := below_step hB hb2
  generalize (w7.alloc (.cells #[.int .u64 0, .int .u64 0, .int .u64 0, .slice none 0 0] 25)).setRow w7.heap.size [.int .u64 0, .int .u64 0, .int .u64 0, .slice A7 0 c7].toArray = w8 at hrt hr1 hr3' hRp hRq hB ⊢
  clear hR0 hb2
  have hs1 : (convert 23 9 (.slice A1 15 c1)).run Try.prog w8 = .ok (.string ⟨#[87, 2, 1, 2, 1, 1, 0, 49, 50, 51, 52, 53, 54, 55, 56]⟩) w8 := run_str _ _ _ _ Try.underlying23 Try.underlying5 Try.underlying9 _ [87, 2, 1, 2, 1, 1, 0, 49, 50, 51, 52, 53, 54, 55, 56] 15 c1 rfl hr1
  have cp0 : w8.cell? ⟨w.heap.size + 1, 0, none⟩ = some (.int .u64 258) := hRp.cell rfl
  have cp1 : w8.cell? ⟨w.heap.size + 1, 1, none⟩ = some (.int .u64 1) := hRp.cell rfl
  have cp2 : w8.cell? ⟨w.heap.size + 1, 2, none⟩ = some (.int .u64 0) := hRp.cell rfl
  have cp3 : w8.cell? ⟨w.heap.size + 1, 3, none⟩ = some (.slice (some ⟨w.heap.size, 0, none⟩) 8 8) := hRp.cell rfl
  have cq0 : w8.cell? ⟨gq, 0, none⟩ = some (.int .u64 258) := hRq.cell rfl
  have cq1 : w8.cell? ⟨gq, 1, none⟩ = some (.int .u64 1) := hRq.cell rfl
  have cq2 : w8.cell? ⟨gq, 2, none⟩ = some (.int .u64 0) := hRq.cell rfl
  have cq3 : w8.cell? ⟨gq, 3, none⟩ = some (.slice A3 8 c3) := hRq.cell rfl
  go_wp2_with fail
  refine (refsame_pay 258 1 0 258 1 0 tag8 tag8 8 8 _ A3 8 c3 _ (Lib.hid rfl) (Lib.hid rfl) hrt hr3').mono ?_
  rintro e w9 ⟨rfl, hb⟩
  rw [aw_same]
  replace hrt := hrt.keep hb
  replace hRp := hRp.later hb
  replace hB := below_step hB hb
  clear hb hs1 cp0 cp1 cp2 cp3 cq0 cq1 cq2 cq3
  go_wp2_with fail
  refine (msgP_any 1 2 3 _ (by omega) (by omega) (by omega)).mono ?_
  rintro e w10 ⟨A10, n10, c10, rfl, HN10, hc10, hr10, hb⟩
  have en10 : n10 = 25 := by rw [← HN10.out]; exact aw_msg.1
  subst en10
  replace hrt := hrt.keep hb
  replace hRp := hRp.later hb
  replace hB := below_step hB hb
  clear hb hr10
  go_wp2_with fail
  refine (msgP_any 1 2 3 _ (by omega) (by omega) (by omega)).mono ?_
  rintro e w11 ⟨A11, n11, c11, rfl, HN11, hc11, hr11, hb⟩
  have en11 : n11 = 25 := by rw [← HN11.out]; exact aw_msg.1
  subst en11
  replace hrt := hrt.keep hb
  replace hRp := hRp.later hb
  replace hB := below_step hB hb
  have h24 : 24 < (msgF 1 2 3).length := by rw [aw_msg.1]; omega
  obtain ⟨gm, om, rfl, hgm, hcm⟩ := hr11.at h24
  have hc24 : w11.cell? ⟨gm, om + 24, none⟩ = some (.int .u8 3) := by
    have := hcm 24 h24
    rw [this]
    have e3 := aw_msg.2
    rw [List.getElem?_eq_getElem h24] at e3
    injection e3 with e3
    rw [e3]
    rfl
  clear hb hr11 hcm
  have cp0 : w11.cell? ⟨w.heap.size + 1, 0, none⟩ = some (.int .u64 258) := hRp.cell rfl
  have cp1 : w11.cell? ⟨w.heap.size + 1, 1, none⟩ = some (.int .u64 1) := hRp.cell rfl
  have cp2 : w11.cell? ⟨w.heap.size + 1, 2, none⟩ = some (.int .u64 0) := hRp.cell rfl
  have cp3 : w11.cell? ⟨w.heap.size + 1, 3, none⟩ = some (.slice (some ⟨w.heap.size, 0, none⟩) 8 8) := hRp.cell rfl
  go_wp2_with fail
  refine (rightP_any 258 1 0 tag8 8 _ 8 _ (Lib.hid rfl) hrt (Nat.le_refl _) (by omega)).mono ?_
  rintro e w12 ⟨rfl, hb⟩
  replace hB := below_step hB hb
  have hd : decide ((8 : Nat) = 8) = true := rfl
  rw [hd]
  go_wp2_with fail
  go_ret
  exact ⟨rfl, hB⟩
end Go.Proofs.Yteppocjgodmpdaa
/-
  The walk of the law FrameRight: payloads' bytes, what any bytes are, and what a tag is of, are the document's. No conditions.
-/
namespace Go.Proofs.Yteppocjgodmpdaa
set_option maxRecDepth 100000
open Go.RowKit
set_option linter.unusedSimpArgs false
set_option linter.unusedVariables false

theorem strZ (n : Nat) {w : World} {A : Option Addr} {l : List UInt8} {c : Nat} (H : Hid (l.length = n)) (h : Rd vB w A l) : ∀ W, Below w.heap.size w W → (convert 23 9 (.slice A n c)).run Try.prog W = .ok (.string (strL l)) W :=
  fun W hW => run_str W _ _ _ Try.underlying23 Try.underlying5 Try.underlying9 A l n c H.out (h.keep hW)
set_option maxRecDepth 100000 in
set_option maxHeartbeats 6000000 in
theorem frameright_core (t e c : Nat) (tag : List UInt8) (n : Nat) (A : Option Addr) (k : Nat) (b : List UInt8) (m : Nat) (B : Option Addr) (d : Nat) (w : World) (ht : t < 18446744073709551616) (he : e < 18446744073709551616) (hc : c < 18446744073709551616) (HN : Hid (tag.length = n)) (hrt : Rd vB w A tag) (hk : n ≤ k) (hn : n ≤ 3000) (HM : Hid (b.length = m)) (hrb : Rd vB w B b) (hd : m ≤ d) (hm : m ≤ 3000) :
    Calls Try.prog 3 #[aggP t e c A n k, .slice B m d] w fun e₁ w' => e₁ = .returned (.bool true) ∧ Below w.heap.size w w' := by
  have g1 : decide ((3000 : Int) < (n : Int)) = false := decide_eq_false (by omega)
  have g2 : decide ((3000 : Int) < (m : Int)) = false := decide_eq_false (by omega)
  have n1 : ¬ 3000 < n := by omega
  have n2 : ¬ 3000 < m := by omega
  obtain ⟨code, t2, e2, c2, tg, hF⟩ : ∃ code t2 e2 c2 tg, readF b = (code, t2, e2, c2, tg) := ⟨_, _, _, _, _, rfl⟩
  have hSS : sameF t2 e2 c2 tg t2 e2 c2 tg = true := by unfold sameF; simp
  obtain ⟨hRp, hB⟩ := box_pay w 25 (.int .u64 (t : Int)) (.int .u64 (e : Int)) (.int .u64 (c : Int)) (.slice A n k)
  have HT := Lib.hid ht
  have HE := Lib.hid he
  have HC := Lib.hid hc
  clear ht he hc
  unfold aggP
  go_enter Try.func3, Try.ntmps3
  go_upto_region 1 with fail
  generalize (w.alloc (.cells #[.int .u64 (t : Int), .int .u64 (e : Int), .int .u64 (c : Int), .slice A n k] 25)) = W0 at hRp hB ⊢
  replace hrt := hrt.keep hB
  replace hrb := hrb.keep hB
  go_wp2_with fail
  refine (awake12_any _).mono ?_
  rintro e₁ w1 ⟨rfl, hb⟩
  replace hrt := hrt.keep hb
  replace hrb := hrb.keep hb
  replace hRp := hRp.later hb
  replace hB := below_step hB hb
  clear hb
  have cl3 : w1.cell? ⟨w.heap.size, 3, none⟩ = some (.slice A n k) := hRp.cell rfl
  go_upto_region 5 with fail
  clear g1 g2 n1 n2
  by_cases h8 : n = 8
  · subst h8
    go_wp2_with (refine wpList_load_part rfl 25 (.tmp 2) rfl w.heap.size 0 rfl _ _ hRp [.int .u64 (t : Int), .int .u64 (e : Int), .int .u64 (c : Int), .slice A 8 k] (by rfl) _ Try.underlying25 rfl (by exact size_pay) ?_)
    refine (writeP_ok t e c tag A k _ HT.out HE.out HC.out HN hrt hk).mono ?_
    rintro e₁ w2 ⟨A2, n2, k2, rfl, HN2, hk2, hr2, hb⟩
    replace hrt := hrt.keep hb
    replace hrb := hrb.keep hb
    replace hRp := hRp.later hb
    replace hB := below_step hB hb
    clear hb cl3
    have cl3 : w2.cell? ⟨w.heap.size, 3, none⟩ = some (.slice A 8 k) := hRp.cell rfl
    go_upto_region 7 with fail
    clear cl3
    have hs1 := strZ (c := k2) n2 HN2 hr2
    have cp0 : ∀ W, Below w2.heap.size w2 W → W.cell? ⟨w.heap.size, 0, none⟩ = some (.int .u64 (t : Int)) := fun W hW => (hRp.later hW).cell rfl
    have cp1 : ∀ W, Below w2.heap.size w2 W → W.cell? ⟨w.heap.size, 1, none⟩ = some (.int .u64 (e : Int)) := fun W hW => (hRp.later hW).cell rfl
    have cp2 : ∀ W, Below w2.heap.size w2 W → W.cell? ⟨w.heap.size, 2, none⟩ = some (.int .u64 (c : Int)) := fun W hW => (hRp.later hW).cell rfl
    have cp3 : ∀ W, Below w2.heap.size w2 W → W.cell? ⟨w.heap.size, 3, none⟩ = some (.slice A 8 k) := fun W hW => (hRp.later hW).cell rfl
    have HX := Lib.hid (And.intro hrt (And.intro hrb (And.intro hRp hB)))
    clear hrt hrb hRp hB hr2
    have hBase := (Below.refl w2.heap.size w2).drew
    refine wp_region_plan (.step 0 false (.step 1 false (.step 2 false (.step 3 false (.step 4 false (.step 5 false (.step 6 true (.step 7 false (.step 8 false (.step 9 false (.nil))))))))))) (by kernel_rfl) (by kernel_rfl) (by rfl) (by kernel_rfl) ?_
    iterate 6 (refine plan_read rfl (by rfl) (v := ?_) ?_ ?_; rotate_left 1; (intro W hW; have hW0 := below_step hBase hW; (try dsimp only at hW); go_simp <;> with_reducible rfl); simp only [List.getElem_toArray, List.getElem_cons_zero, List.getElem_cons_succ, Act.put, List.setIfInBounds_toArray, List.set_cons_zero, List.set_cons_succ])
    (refine plan_make rfl (by rfl) (fun K hK => ?_); go_simp; (refine (refwriteF_any t e c tag 8 A k _ HT.out HE.out HC.out HN (HX.out.1.keep hBase) (by omega)).mono ?_; rintro e₁ w3 ⟨A3, n3, k3, rfl, HN3, hk3, hr3, hbx⟩); refine hK.out _ _ hbx ?_; clear hK K; replace hBase := below_step hBase hbx)
    have hs2 := strZ (c := k3) n3 HN3 hr3
    iterate 3 (refine plan_read rfl (by rfl) (v := ?_) ?_ ?_; rotate_left 1; (intro W hW; have hW0 := below_step hBase hW; (try dsimp only at hW); go_simp <;> with_reducible rfl); simp only [List.getElem_toArray, List.getElem_cons_zero, List.getElem_cons_succ, Act.put, List.setIfInBounds_toArray, List.set_cons_zero, List.set_cons_succ])
    refine plan_done ?_
    have hrt := HX.out.1.keep hBase
    have hrb := HX.out.2.1.keep hBase
    have hRp := HX.out.2.2.1.later hBase
    have hB := below_step HX.out.2.2.2 hBase
    clear hs1 hs2 cp0 cp1 cp2 cp3 HX hBase hr3
    go_upto_region 11 with fail
    go_wp2_with fail
    refine (readP_any b m B d _ HM hrb hd (by omega)).mono ?_
    rw [hF]
    rintro e₁ w5 ⟨A5, n5, k5, rfl, HN5, hk5, hr5, hb⟩
    dsimp only at HN5 hr5 ⊢
    replace hrt := hrt.keep hb
    replace hrb := hrb.keep hb
    replace hRp := hRp.later hb
    replace hB := below_step hB hb
    clear hb
    have hR0 : Row (w5.alloc (.cells #[.int .u64 0, .int .u64 0, .int .u64 0, .slice none 0 0] 25)) w5.heap.size 25 [.int .u64 0, .int .u64 0, .int .u64 0, .slice none 0 0] := Row.new w5 _ _ _ rfl
    go_upto_region 12 with (refine wpList_store_row rfl 25 (.tmp 7) (.tmp 51) rfl w5.heap.size rfl [.int .u64 (t2 : Int), .int .u64 (e2 : Int), .int .u64 (c2 : Int), .slice A5 n5 k5] rfl _ _ hR0 (by exact size_pay) rfl (one_four _ _ _ _ rfl rfl rfl rfl) ?_)
    have hRq := hR0.setRow [.int .u64 (t2 : Int), .int .u64 (e2 : Int), .int .u64 (c2 : Int), .slice A5 n5 k5]
    have hb2 : Below w5.heap.size w5 ((w5.alloc (.cells #[.int .u64 0, .int .u64 0, .int .u64 0, .slice none 0 0] 25)).setRow w5.heap.size [.int .u64 (t2 : Int), .int .u64 (e2 : Int), .int .u64 (c2 : Int), .slice A5 n5 k5].toArray) := below_setRow (below_new (Below.refl _ _) _) (Nat.le_refl _) _
    replace hrt := hrt.keep hb2
    replace hrb := hrb.keep hb2
    replace hr5 := hr5.keep hb2
    replace hRp := hRp.later hb2
    replace hB := below_step hB hb2
    generalize (w5.alloc (.cells #[.int .u64 0, .int .u64 0, .int .u64 0, .slice none 0 0] 25)).setRow w5.heap.size [.int .u64 (t2 : Int), .int .u64 (e2 : Int), .int .u64 (c2 : Int), .slice A5 n5 k5].toArray = w6 at hrt hrb hr5 hRp hRq hB ⊢
    clear hR0 hb2
    generalize w5.heap.size = gq at hRq ⊢
    go_wp2_with fail
    refine (refreadF_any b m B d _ HM hrb hd (by omega)).mono ?_
    rw [hF]
    rintro e₁ w7 ⟨A6, n6, k6, rfl, HN6, hk6, hr6, hb⟩
    dsimp only at HN6 hr6 ⊢
    replace hrt := hrt.keep hb
    replace hr5 := hr5.keep hb
    replace hRp := hRp.later hb
    replace hRq := hRq.later hb
    replace hB := below_step hB hb
    clear hb
    have hR0 : Row (w7.alloc (.cells #[.int .u64 0, .int .u64 0, .int .u64 0, .slice none 0 0] 25)) w7.heap.size 25 [.int .u64 0, .int .u64 0, .int .u64 0, .slice none 0 0] := Row.new w7 _ _ _ rfl
    go_upto_region 13 with (refine wpList_store_row rfl 25 (.tmp 9) (.tmp 56) rfl w7.heap.size rfl [.int .u64 (t2 : Int), .int .u64 (e2 : Int), .int .u64 (c2 : Int), .slice A6 n6 k6] rfl _ _ hR0 (by exact size_pay) rfl (one_four _ _ _ _ rfl rfl rfl rfl) ?_)
    have hRr := hR0.setRow [.int .u64 (t2 : Int), .int .u64 (e2 : Int), .int .u64 (c2 : Int), .slice A6 n6 k6]
    have hb2 : Below w7.heap.size w7 ((w7.alloc (.cells #[.int .u64 0, .int .u64 0, .int .u64 0, .slice none 0 0] 25)).setRow w7.heap.size [.int .u64 (t2 : Int), .int .u64 (e2 : Int), .int .u64 (c2 : Int), .slice A6 n6 k6].toArray) := below_setRow (below_new (Below.refl _ _) _) (Nat.le_refl _) _
    replace hrt := hrt.keep hb2
    replace hr5 := hr5.keep hb2
    replace hr6 := hr6.keep hb2
    replace hRp := hRp.later hb2
    replace hRq := hRq.later hb2
    replace hB := below_step hB hb2
    generalize (w7.alloc (.cells #[.int .u64 0, .int .u64 0, .int .u64 0, .slice none 0 0] 25)).setRow w7.heap.size [.int .u64 (t2 : Int), .int .u64 (e2 : Int), .int .u64 (c2 : Int), .slice A6 n6 k6].toArray = w8 at hrt hr5 hr6 hRp hRq hRr hB ⊢
    clear hR0 hb2
    generalize w7.heap.size = gr at hRr ⊢
    have cp0 : ∀ W, Below w8.heap.size w8 W → W.cell? ⟨w.heap.size, 0, none⟩ = some (.int .u64 (t : Int)) := fun W hW => (hRp.later hW).cell rfl
    have cp1 : ∀ W, Below w8.heap.size w8 W → W.cell? ⟨w.heap.size, 1, none⟩ = some (.int .u64 (e : Int)) := fun W hW => (hRp.later hW).cell rfl
    have cp2 : ∀ W, Below w8.heap.size w8 W → W.cell? ⟨w.heap.size, 2, none⟩ = some (.int .u64 (c : Int)) := fun W hW => (hRp.later hW).cell rfl
    have cp3 : ∀ W, Below w8.heap.size w8 W → W.cell? ⟨w.heap.size, 3, none⟩ = some (.slice A 8 k) := fun W hW => (hRp.later hW).cell rfl
    have cq0 : ∀ W, Below w8.heap.size w8 W → W.cell? ⟨gq, 0, none⟩ = some (.int .u64 (t2 : Int)) := fun W hW => (hRq.later hW).cell rfl
    have cq1 : ∀ W, Below w8.heap.size w8 W → W.cell? ⟨gq, 1, none⟩ = some (.int .u64 (e2 : Int)) := fun W hW => (hRq.later hW).cell rfl
    have cq2 : ∀ W, Below w8.heap.size w8 W → W.cell? ⟨gq, 2, none⟩ = some (.int .u64 (c2 : Int)) := fun W hW => (hRq.later hW).cell rfl
    have cq3 : ∀ W, Below w8.heap.size w8 W → W.cell? ⟨gq, 3, none⟩ = some (.slice A5 n5 k5) := fun W hW => (hRq.later hW).cell rfl
    have cr0 : ∀ W, Below w8.heap.size w8 W → W.cell? ⟨gr, 0, none⟩ = some (.int .u64 (t2 : Int)) := fun W hW => (hRr.later hW).cell rfl
    have cr1 : ∀ W, Below w8.heap.size w8 W → W.cell? ⟨gr, 1, none⟩ = some (.int .u64 (e2 : Int)) := fun W hW => (hRr.later hW).cell rfl
    have cr2 : ∀ W, Below w8.heap.size w8 W → W.cell? ⟨gr, 2, none⟩ = some (.int .u64 (c2 : Int)) := fun W hW => (hRr.later hW).cell rfl
    have cr3 : ∀ W, Below w8.heap.size w8 W → W.cell? ⟨gr, 3, none⟩ = some (.slice A6 n6 k6) := fun W hW => (hRr.later hW).cell rfl
    have HX := Lib.hid (And.intro hrt (And.intro hr5 (And.intro hr6 hB)))
    clear hrt hr5 hr6 hB hRp hRq hRr hrb
    have hBase := (Below.refl w8.heap.size w8).drew
    refine wp_region_plan (.step 0 false (.step 2 false (.step 3 false (.step 4 false (.step 5 false (.step 1 true (.step 6 false (.step 7 false (.step 8 false (.step 9 false (.step 10 true (.step 11 false (.step 12 false (.step 13 false (.step 14 false (.step 15 false (.step 16 false (.step 17 false (.step 18 false (.step 19 false (.step 20 false (.step 21 false (.step 22 false (.step 23 false (.step 26 false (.step 27 false (.step 28 false (.step 29 false (.step 30 false (.step 31 false (.step 24 true (.step 25 false (.step 32 true (.step 33 false (.step 34 false (.step 35 false (.step 36 false (.nil)))))))))))))))))))))))))))))))))))))) (by kernel_rfl) (by kernel_rfl) (by rfl) (by kernel_rfl) ?_
    iterate 5 (refine plan_read rfl (by rfl) (v := ?_) ?_ ?_; rotate_left 1; (intro W hW; have hW0 := below_step hBase hW; (try dsimp only at hW); go_simp <;> with_reducible rfl); simp only [List.getElem_toArray, List.getElem_cons_zero, List.getElem_cons_succ, Act.put, List.setIfInBounds_toArray, List.set_cons_zero, List.set_cons_succ])
    (refine plan_make rfl (by rfl) (fun K hK => ?_); go_simp; (refine (rightP_any t e c tag 8 A k _ HN (HX.out.1.keep hBase) hk (by omega)).mono ?_; rintro e₁ w9 ⟨rfl, hbx⟩; rw [show decide ((8 : Nat) = 8) = true from rfl]); refine hK.out _ _ hbx ?_; clear hK K; replace hBase := below_step hBase hbx)
    iterate 4 (refine plan_read rfl (by rfl) (v := ?_) ?_ ?_; rotate_left 1; (intro W hW; have hW0 := below_step hBase hW; (try dsimp only at hW); go_simp <;> with_reducible rfl); simp only [List.getElem_toArray, List.getElem_cons_zero, List.getElem_cons_succ, Act.put, List.setIfInBounds_toArray, List.set_cons_zero, List.set_cons_succ])
    (refine plan_make rfl (by rfl) (fun K hK => ?_); go_simp; (refine (refsame_pay t2 e2 c2 t2 e2 c2 tg tg n5 n6 A5 A6 k5 k6 _ HN5 HN6 (HX.out.2.1.keep hBase) (HX.out.2.2.1.keep hBase)).mono ?_; rintro e₁ w10 ⟨rfl, hbx⟩; rw [hSS]); refine hK.out _ _ hbx ?_; clear hK K; replace hBase := below_step hBase hbx)
    iterate 19 (refine plan_read rfl (by rfl) (v := ?_) ?_ ?_; rotate_left 1; (intro W hW; have hW0 := below_step hBase hW; (try dsimp only at hW); go_simp <;> with_reducible rfl); simp only [List.getElem_toArray, List.getElem_cons_zero, List.getElem_cons_succ, Act.put, List.setIfInBounds_toArray, List.set_cons_zero, List.set_cons_succ])
    (refine plan_make rfl (by rfl) (fun K hK => ?_); go_simp; (refine (msgP_any t e c _ HT.out HE.out HC.out).mono ?_; rintro e₁ w11 ⟨A11, n11, c11, rfl, HN11, hc11, hr11, hbx⟩); refine hK.out _ _ hbx ?_; clear hK K; replace hBase := below_step hBase hbx)
    have hs1 := strZ (c := c11) n11 HN11 hr11
    iterate 1 (refine plan_read rfl (by rfl) (v := ?_) ?_ ?_; rotate_left 1; (intro W hW; have hW0 := below_step hBase hW; (try dsimp only at hW); go_simp <;> with_reducible rfl); simp only [List.getElem_toArray, List.getElem_cons_zero, List.getElem_cons_succ, Act.put, List.setIfInBounds_toArray, List.set_cons_zero, List.set_cons_succ])
    (refine plan_make rfl (by rfl) (fun K hK => ?_); go_simp; (refine (refmsg_any t e c _ HT.out HE.out HC.out).mono ?_; rintro e₁ w12 ⟨A12, n12, c12, rfl, HN12, hc12, hr12, hbx⟩); refine hK.out _ _ hbx ?_; clear hK K; replace hBase := below_step hBase hbx)
    have hs2 := strZ (c := c12) n12 HN12 hr12
    iterate 4 (refine plan_read rfl (by rfl) (v := ?_) ?_ ?_; rotate_left 1; (intro W hW; have hW0 := below_step hBase hW; (try dsimp only at hW); go_simp <;> with_reducible rfl); simp only [List.getElem_toArray, List.getElem_cons_zero, List.getElem_cons_succ, Act.put, List.setIfInBounds_toArray, List.set_cons_zero, List.set_cons_succ])
    refine plan_done ?_
    clear hs1 hs2
    go_wp2_with fail
    go_ret
    exact ⟨rfl, below_step HX.out.2.2.2 hBase⟩
  · have hD : decide (n = 8) = false := decide_eq_false h8
    have h8i : ((n : Int) == 8) = false := beq_eq_false_iff_ne.2 (by omega)
    go_wp2_with (refine wpList_load_part rfl 25 (.tmp 2) rfl w.heap.size 0 rfl _ _ hRp [.int .u64 (t : Int), .int .u64 (e : Int), .int .u64 (c : Int), .slice A n k] (by rfl) _ Try.underlying25 rfl (by exact size_pay) ?_)
    refine (writeP_no t e c tag n A k _ HT.out HE.out HC.out HN hrt hk (by omega) h8).mono ?_
    rintro e₁ w2 ⟨A2, n2, k2, rfl, HN2, hk2, hr2, hb⟩
    have en2 : n2 = 0 := HN2.out.symm
    subst en2
    replace hrt := hrt.keep hb
    replace hrb := hrb.keep hb
    replace hRp := hRp.later hb
    replace hB := below_step hB hb
    clear hb hr2 cl3
    have cl3 : w2.cell? ⟨w.heap.size, 3, none⟩ = some (.slice A n k) := hRp.cell rfl
    go_upto_region 11 with fail
    clear cl3
    go_wp2_with fail
    refine (readP_any b m B d _ HM hrb hd (by omega)).mono ?_
    rw [hF]
    rintro e₁ w5 ⟨A5, n5, k5, rfl, HN5, hk5, hr5, hb⟩
    dsimp only at HN5 hr5 ⊢
    replace hrt := hrt.keep hb
    replace hrb := hrb.keep hb
    replace hRp := hRp.later hb
    replace hB := below_step hB hb
    clear hb
    have hR0 : Row (w5.alloc (.cells #[.int .u64 0, .int .u64 0, .int .u64 0, .slice none 0 0] 25)) w5.heap.size 25 [.int .u64 0, .int .u64 0, .int .u64 0, .slice none 0 0] := Row.new w5 _ _ _ rfl
    go_upto_region 12 with (refine wpList_store_row rfl 25 (.tmp 7) (.tmp 51) rfl w5.heap.size rfl [.int .u64 (t2 : Int), .int .u64 (e2 : Int), .int .u64 (c2 : Int), .slice A5 n5 k5] rfl _ _ hR0 (by exact size_pay) rfl (one_four _ _ _ _ rfl rfl rfl rfl) ?_)
    have hRq := hR0.setRow [.int .u64 (t2 : Int), .int .u64 (e2 : Int), .int .u64 (c2 : Int), .slice A5 n5 k5]
    have hb2 : Below w5.heap.size w5 ((w5.alloc (.cells #[.int .u64 0, .int .u64 0, .int .u64 0, .slice none 0 0] 25)).setRow w5.heap.size [.int .u64 (t2 : Int), .int .u64 (e2 : Int), .int .u64 (c2 : Int), .slice A5 n5 k5].toArray) := below_setRow (below_new (Below.refl _ _) _) (Nat.le_refl _) _
    replace hrt := hrt.keep hb2
    replace hrb := hrb.keep hb2
    replace hr5 := hr5.keep hb2
    replace hRp := hRp.later hb2
    replace hB := below_step hB hb2
    generalize (w5.alloc (.cells #[.int .u64 0, .int .u64 0, .int .u64 0, .slice none 0 0] 25)).setRow w5.heap.size [.int .u64 (t2 : Int), .int .u64 (e2 : Int), .int .u64 (c2 : Int), .slice A5 n5 k5].toArray = w6 at hrt hrb hr5 hRp hRq hB ⊢
    clear hR0 hb2
    generalize w5.heap.size = gq at hRq ⊢
    go_wp2_with fail
    refine (refreadF_any b m B d _ HM hrb hd (by omega)).mono ?_
    rw [hF]
    rintro e₁ w7 ⟨A6, n6, k6, rfl, HN6, hk6, hr6, hb⟩
    dsimp only at HN6 hr6 ⊢
    replace hrt := hrt.keep hb
    replace hr5 := hr5.keep hb
    replace hRp := hRp.later hb
    replace hRq := hRq.later hb
    replace hB := below_step hB hb
    clear hb
    have hR0 : Row (w7.alloc (.cells #[.int .u64 0, .int .u64 0, .int .u64 0, .slice none 0 0] 25)) w7.heap.size 25 [.int .u64 0, .int .u64 0, .int .u64 0, .slice none 0 0] := Row.new w7 _ _ _ rfl
    go_upto_region 13 with (refine wpList_store_row rfl 25 (.tmp 9) (.tmp 56) rfl w7.heap.size rfl [.int .u64 (t2 : Int), .int .u64 (e2 : Int), .int .u64 (c2 : Int), .slice A6 n6 k6] rfl _ _ hR0 (by exact size_pay) rfl (one_four _ _ _ _ rfl rfl rfl rfl) ?_)
    have hRr := hR0.setRow [.int .u64 (t2 : Int), .int .u64 (e2 : Int), .int .u64 (c2 : Int), .slice A6 n6 k6]
    have hb2 : Below w7.heap.size w7 ((w7.alloc (.cells #[.int .u64 0, .int .u64 0, .int .u64 0, .slice none 0 0] 25)).setRow w7.heap.size [.int .u64 (t2 : Int), .int .u64 (e2 : Int), .int .u64 (c2 : Int), .slice A6 n6 k6].toArray) := below_setRow (below_new (Below.refl _ _) _) (Nat.le_refl _) _
    replace hrt := hrt.keep hb2
    replace hr5 := hr5.keep hb2
    replace hr6 := hr6.keep hb2
    replace hRp := hRp.later hb2
    replace hRq := hRq.later hb2
    replace hB := below_step hB hb2
    generalize (w7.alloc (.cells #[.int .u64 0, .int .u64 0, .int .u64 0, .slice none 0 0] 25)).setRow w7.heap.size [.int .u64 (t2 : Int), .int .u64 (e2 : Int), .int .u64 (c2 : Int), .slice A6 n6 k6].toArray = w8 at hrt hr5 hr6 hRp hRq hRr hB ⊢
    clear hR0 hb2
    generalize w7.heap.size = gr at hRr ⊢
    have cp0 : ∀ W, Below w8.heap.size w8 W → W.cell? ⟨w.heap.size, 0, none⟩ = some (.int .u64 (t : Int)) := fun W hW => (hRp.later hW).cell rfl
    have cp1 : ∀ W, Below w8.heap.size w8 W → W.cell? ⟨w.heap.size, 1, none⟩ = some (.int .u64 (e : Int)) := fun W hW => (hRp.later hW).cell rfl
    have cp2 : ∀ W, Below w8.heap.size w8 W → W.cell? ⟨w.heap.size, 2, none⟩ = some (.int .u64 (c : Int)) := fun W hW => (hRp.later hW).cell rfl
    have cp3 : ∀ W, Below w8.heap.size w8 W → W.cell? ⟨w.heap.size, 3, none⟩ = some (.slice A n k) := fun W hW => (hRp.later hW).cell rfl
    have cq0 : ∀ W, Below w8.heap.size w8 W → W.cell? ⟨gq, 0, none⟩ = some (.int .u64 (t2 : Int)) := fun W hW => (hRq.later hW).cell rfl
    have cq1 : ∀ W, Below w8.heap.size w8 W → W.cell? ⟨gq, 1, none⟩ = some (.int .u64 (e2 : Int)) := fun W hW => (hRq.later hW).cell rfl
    have cq2 : ∀ W, Below w8.heap.size w8 W → W.cell? ⟨gq, 2, none⟩ = some (.int .u64 (c2 : Int)) := fun W hW => (hRq.later hW).cell rfl
    have cq3 : ∀ W, Below w8.heap.size w8 W → W.cell? ⟨gq, 3, none⟩ = some (.slice A5 n5 k5) := fun W hW => (hRq.later hW).cell rfl
    have cr0 : ∀ W, Below w8.heap.size w8 W → W.cell? ⟨gr, 0, none⟩ = some (.int .u64 (t2 : Int)) := fun W hW => (hRr.later hW).cell rfl
    have cr1 : ∀ W, Below w8.heap.size w8 W → W.cell? ⟨gr, 1, none⟩ = some (.int .u64 (e2 : Int)) := fun W hW => (hRr.later hW).cell rfl
    have cr2 : ∀ W, Below w8.heap.size w8 W → W.cell? ⟨gr, 2, none⟩ = some (.int .u64 (c2 : Int)) := fun W hW => (hRr.later hW).cell rfl
    have cr3 : ∀ W, Below w8.heap.size w8 W → W.cell? ⟨gr, 3, none⟩ = some (.slice A6 n6 k6) := fun W hW => (hRr.later hW).cell rfl
    have HX := Lib.hid (And.intro hrt (And.intro hr5 (And.intro hr6 hB)))
    clear hrt hr5 hr6 hB hRp hRq hRr hrb
    have hBase := (Below.refl w8.heap.size w8).drew
    refine wp_region_plan (.step 0 false (.step 2 false (.step 3 false (.step 4 false (.step 5 false (.step 1 true (.step 6 false (.step 7 false (.step 8 false (.step 9 false (.step 10 true (.step 11 false (.step 12 false (.step 13 false (.step 14 false (.step 15 false (.step 16 false (.step 17 false (.step 18 false (.step 19 false (.step 20 false (.step 21 false (.step 22 false (.step 23 false (.step 26 false (.step 27 false (.step 28 false (.step 29 false (.step 30 false (.step 31 false (.step 24 true (.step 25 false (.step 32 true (.step 33 false (.step 34 false (.step 35 false (.step 36 false (.nil)))))))))))))))))))))))))))))))))))))) (by kernel_rfl) (by kernel_rfl) (by rfl) (by kernel_rfl) ?_
    iterate 5 (refine plan_read rfl (by rfl) (v := ?_) ?_ ?_; rotate_left 1; (intro W hW; have hW0 := below_step hBase hW; (try dsimp only at hW); go_simp <;> with_reducible rfl); simp only [List.getElem_toArray, List.getElem_cons_zero, List.getElem_cons_succ, Act.put, List.setIfInBounds_toArray, List.set_cons_zero, List.set_cons_succ])
    (refine plan_make rfl (by rfl) (fun K hK => ?_); go_simp; (refine (rightP_any t e c tag n A k _ HN (HX.out.1.keep hBase) hk (by omega)).mono ?_; rintro e₁ w9 ⟨rfl, hbx⟩; rw [hD]); refine hK.out _ _ hbx ?_; clear hK K; replace hBase := below_step hBase hbx)
    iterate 4 (refine plan_read rfl (by rfl) (v := ?_) ?_ ?_; rotate_left 1; (intro W hW; have hW0 := below_step hBase hW; (try dsimp only at hW); go_simp <;> with_reducible rfl); simp only [List.getElem_toArray, List.getElem_cons_zero, List.getElem_cons_succ, Act.put, List.setIfInBounds_toArray, List.set_cons_zero, List.set_cons_succ])
    (refine plan_make rfl (by rfl) (fun K hK => ?_); go_simp; (refine (refsame_pay t2 e2 c2 t2 e2 c2 tg tg n5 n6 A5 A6 k5 k6 _ HN5 HN6 (HX.out.2.1.keep hBase) (HX.out.2.2.1.keep hBase)).mono ?_; rintro e₁ w10 ⟨rfl, hbx⟩; rw [hSS]); refine hK.out _ _ hbx ?_; clear hK K; replace hBase := below_step hBase hbx)
    iterate 19 (refine plan_read rfl (by rfl) (v := ?_) ?_ ?_; rotate_left 1; (intro W hW; have hW0 := below_step hBase hW; (try dsimp only at hW); go_simp <;> with_reducible rfl); simp only [List.getElem_toArray, List.getElem_cons_zero, List.getElem_cons_succ, Act.put, List.setIfInBounds_toArray, List.set_cons_zero, List.set_cons_succ])
    (refine plan_make rfl (by rfl) (fun K hK => ?_); go_simp; (refine (msgP_any t e c _ HT.out HE.out HC.out).mono ?_; rintro e₁ w11 ⟨A11, n11, c11, rfl, HN11, hc11, hr11, hbx⟩); refine hK.out _ _ hbx ?_; clear hK K; replace hBase := below_step hBase hbx)
    have hs1 := strZ (c := c11) n11 HN11 hr11
    iterate 1 (refine plan_read rfl (by rfl) (v := ?_) ?_ ?_; rotate_left 1; (intro W hW; have hW0 := below_step hBase hW; (try dsimp only at hW); go_simp <;> with_reducible rfl); simp only [List.getElem_toArray, List.getElem_cons_zero, List.getElem_cons_succ, Act.put, List.setIfInBounds_toArray, List.set_cons_zero, List.set_cons_succ])
    (refine plan_make rfl (by rfl) (fun K hK => ?_); go_simp; (refine (refmsg_any t e c _ HT.out HE.out HC.out).mono ?_; rintro e₁ w12 ⟨A12, n12, c12, rfl, HN12, hc12, hr12, hbx⟩); refine hK.out _ _ hbx ?_; clear hK K; replace hBase := below_step hBase hbx)
    have hs2 := strZ (c := c12) n12 HN12 hr12
    iterate 4 (refine plan_read rfl (by rfl) (v := ?_) ?_ ?_; rotate_left 1; (intro W hW; have hW0 := below_step hBase hW; (try dsimp only at hW); go_simp <;> with_reducible rfl); simp only [List.getElem_toArray, List.getElem_cons_zero, List.getElem_cons_succ, Act.put, List.setIfInBounds_toArray, List.set_cons_zero, List.set_cons_succ])
    refine plan_done ?_
    clear hs1 hs2
    go_wp2_with fail
    go_ret
    exact ⟨rfl, below_step HX.out.2.2.2 hBase⟩
end Go.Proofs.Yteppocjgodmpdaa
/-
  What comes in, opened by its type's shape (no program is named here): numbers, slices of whatever, arrays, structs. No conditions but those typed.
-/
namespace Go.Proofs.Yteppocjgodmpdaa
set_option maxRecDepth 100000
open Go.RowKit Go.Deep Go.WideShapes Go.ChangeShapes

/-- Cells of type t that can be read as data are a reading R of something. -/
def Opens (P : Program) (t : TypeId) {α : Type} (R : World → List Value → α → Prop) : Prop :=
  ∀ {H : Type} (enc : TypeId × Value → H) (w : World) (base : Nat) (spare : Nat → Bool) (held : Bool) (fuel : Nat) (cs : List Value) (x : DataW H × List MemPlace), DataW.trod enc P w base spare held fuel t cs = some x → ∃ a : α, R w cs a

def RByte : World → List Value → UInt8 → Prop := fun _ cs c => cs = [vB c]
def RWord : World → List Value → UInt32 → Prop := fun _ cs c => cs = [vW c]
def RNum : World → List Value → Nat → Prop := fun _ cs v => cs = [.int .u64 (v : Int)] ∧ v < 18446744073709551616
def RInt : World → List Value → Int → Prop := fun _ cs n => cs = [.int .i64 n] ∧ -9223372036854775808 ≤ n ∧ n ≤ 9223372036854775807
def RBool : World → List Value → Bool → Prop := fun _ cs b => cs = [.bool b]

section
variable {P : Program} {t e : TypeId}
theorem opens_byte (ht : P.underlying t = some (.int .u8)) : Opens P t RByte := fun enc w base spare held fuel cs x h => by
  obtain ⟨n, rfl, _, hw⟩ := DataW.trod_int ht h
  simp [Lit.wf, IntKind.min, IntKind.max, IntKind.signed, IntKind.bits] at hw
  refine ⟨UInt8.ofNat n.toNat, ?_⟩
  unfold RByte vB
  rw [UInt8.toNat_ofNat']
  congr 2
  omega
theorem opens_word (ht : P.underlying t = some (.int .u32)) : Opens P t RWord := fun enc w base spare held fuel cs x h => by
  obtain ⟨n, rfl, _, hw⟩ := DataW.trod_int ht h
  simp [Lit.wf, IntKind.min, IntKind.max, IntKind.signed, IntKind.bits] at hw
  refine ⟨UInt32.ofNat n.toNat, ?_⟩
  unfold RWord vW
  rw [UInt32.toNat_ofNat']
  congr 2
  omega
theorem opens_num (ht : P.underlying t = some (.int .u64)) : Opens P t RNum := fun enc w base spare held fuel cs x h => by
  obtain ⟨n, rfl, _, hw⟩ := DataW.trod_int ht h
  obtain ⟨v, hv, rfl⟩ := u64_of_wf hw
  exact ⟨v, rfl, hv⟩
theorem opens_int (ht : P.underlying t = some (.int .i64)) : Opens P t RInt := fun enc w base spare held fuel cs x h => by
  obtain ⟨n, rfl, _, hw⟩ := DataW.trod_int ht h
  exact ⟨n, rfl, i64_of_wf hw⟩

/-- A slice: its elements, of m cells each, lie one behind the other. -/
def RSlice (m : Nat) {α : Type} (R : World → List Value → α → Prop) : World → List Value → List α → Prop := fun w cs l =>
  ∃ (A : Option Addr) (cap : Nat), cs = [.slice A l.length cap] ∧ l.length ≤ cap ∧ cap ≤ 9223372036854775807 ∧
    (l ≠ [] → ∃ b o, A = some ⟨b, o, none⟩ ∧ ∀ i (h : i < l.length), ∃ ecs : List Value, ecs.length = m ∧ (∀ j (hj : j < ecs.length), w.cell? ⟨b, o + i * m + j, none⟩ = some ecs[j]) ∧ R w ecs l[i])

theorem cells_at {w : World} {base : Nat} {a : Addr} {n : Nat} {cs : List Value} (h : w.cells? base a n = some cs) : cs.length = n ∧ ∀ j (hj : j < cs.length), w.cell? (a.add j) = some cs[j] := by
  obtain ⟨_, hl, hc⟩ := World.cells?_some h
  refine ⟨hl, fun j hj => ?_⟩
  have := hc j (by omega)
  rw [this]
  exact List.getElem?_eq_getElem hj

theorem choose_list {α : Type} (n : Nat) (p : Nat → α → Prop) (h : ∀ i, i < n → ∃ a, p i a) : ∃ l : List α, l.length = n ∧ ∀ i (hi : i < l.length), p i l[i] := by
  induction n with
  | zero => exact ⟨[], rfl, fun i hi => by simp at hi⟩
  | succ n ih =>
    obtain ⟨l, hl, hp⟩ := ih (fun i hi => h i (by omega))
    obtain ⟨a, ha⟩ := h n (by omega)
    refine ⟨l ++ [a], by simp [hl], fun i hi => ?_⟩
    by_cases hin : i < l.length
    · rw [List.getElem_append_left hin]; exact hp i hin
    · have : i = n := by simp at hi; omega
      subst this
      rw [List.getElem_append_right (by omega)]
      simpa [hl] using ha

theorem opens_slice {α : Type} {R : World → List Value → α → Prop} {m : Nat} (ht : P.underlying t = some (.slice e)) (hc : P.cellsOf e = m) (hm : 0 < m) (he : Opens P e R) : Opens P t (RSlice m R) := fun enc w base spare held fuel cs x h => by
  rcases open_slice ht h with ⟨rfl, _⟩ | ⟨a, len, cap, mm, n, D, Pl, rfl, hb, hl, hcap, hmm, rfl, hx⟩
  · exact ⟨[], none, 0, rfl, Nat.le_refl _, by omega, fun h => absurd rfl h⟩
  · have hlm : len ≤ mm := by rw [hmm]; split <;> omega
    unfold maxLen at hcap
    obtain ⟨l, hll, hp⟩ := choose_list len (fun i (y : α) => ∃ ecs : List Value, ecs.length = m ∧ (∀ j (hj : j < ecs.length), w.cell? ((a.add (i * m)).add j) = some ecs[j]) ∧ R w ecs y) (fun i hi => by
      obtain ⟨ecs, h1, h2⟩ := hx i (by omega)
      rw [hc] at h1
      obtain ⟨h3, h4⟩ := cells_at h1
      obtain ⟨y, hy⟩ := he enc w base spare held n ecs _ h2
      exact ⟨y, ecs, h3, h4, hy⟩)
    refine ⟨l, some a, cap, by rw [hll], by omega, by omega, fun hn => ?_⟩
    have h0 : 0 < l.length := by
      rcases Nat.eq_zero_or_pos l.length with h | h
      · exact absurd (List.eq_nil_of_length_eq_zero h) hn
      · exact h
    obtain ⟨b, o, spot⟩ := a
    obtain ⟨ecs, h3, h4, _⟩ := hp 0 h0
    have hc0 := h4 0 (by omega)
    have hspot : spot = none := by simpa [Addr.add] using World.cell?_spot hc0
    subst hspot
    have hadd : ∀ i j, ((⟨b, o, none⟩ : Addr).add i).add j = ⟨b, o + i + j, none⟩ := fun i j => by unfold Addr.add; split <;> split <;> simp_all
    refine ⟨b, o, rfl, fun i hi => ?_⟩
    obtain ⟨ecs, h3, h4, h5⟩ := hp i hi
    exact ⟨ecs, h3, fun j hj => by rw [← hadd]; exact h4 j hj, h5⟩

/-- An array: its elements' cells one behind the other (elements of one cell). -/
def RArr (n : Nat) {α : Type} (R : World → List Value → α → Prop) : World → List Value → List α → Prop := fun w cs l => l.length = n ∧ cs.length = n ∧ ∀ i (h : i < l.length), R w ((cs.drop i).take 1) l[i]
theorem opens_arr {α : Type} {R : World → List Value → α → Prop} {n : Nat} (ht : P.underlying t = some (.array n e)) (hc : P.cellsOf e = 1) (hn : P.cellsOf t = n) (he : Opens P e R) : Opens P t (RArr n R) := fun enc w base spare held fuel cs x h => by
  obtain ⟨xs, m, _, _, hl, hxl, hx⟩ := DataW.trod_array ht h
  obtain ⟨l, hll, hp⟩ := choose_list n (fun i (y : α) => R w ((cs.drop i).take 1) y) (fun i hi => by
    have := hx i hi
    rw [hc, Nat.mul_one, List.getElem?_eq_getElem (by omega)] at this
    exact he enc w base spare held m _ _ this)
  exact ⟨l, hll, by omega, hp⟩

/-- Structs of two to four fields: each field's cells. -/
def RTwo (a0 n0 a1 n1 : Nat) {α β : Type} (R : World → List Value → α → Prop) (S : World → List Value → β → Prop) : World → List Value → α × β → Prop := fun w cs x => cs.length = n0 + n1 ∧ R w ((cs.drop a0).take n0) x.1 ∧ S w ((cs.drop a1).take n1) x.2
def RThree (a0 n0 a1 n1 a2 n2 : Nat) {α β γ : Type} (R : World → List Value → α → Prop) (S : World → List Value → β → Prop) (T : World → List Value → γ → Prop) : World → List Value → α × β × γ → Prop := fun w cs x => cs.length = n0 + n1 + n2 ∧ R w ((cs.drop a0).take n0) x.1 ∧ S w ((cs.drop a1).take n1) x.2.1 ∧ T w ((cs.drop a2).take n2) x.2.2
theorem opens_two {α β : Type} {R : World → List Value → α → Prop} {S : World → List Value → β → Prop} {f0 f1 : Field} {a0 n0 a1 n1 : Nat} (ht : P.underlying t = some (.struct #[f0, f1])) (e0 : f0.offset = a0) (e1 : f1.offset = a1) (c0 : P.cellsOf f0.type = n0) (c1 : P.cellsOf f1.type = n1) (hn : P.cellsOf t = n0 + n1)
    (h0 : Opens P f0.type R) (h1 : Opens P f1.type S) : Opens P t (RTwo a0 n0 a1 n1 R S) := fun enc w base spare held fuel cs x h => by
  obtain ⟨xs, n, _, _, hl, hxl, hx⟩ := DataW.trod_struct ht h
  have k0 := hx 0 f0 rfl
  have k1 := hx 1 f1 rfl
  simp only [List.size_toArray, List.length_cons, List.length_nil, Nat.zero_add, Nat.reduceAdd] at hxl
  rw [List.getElem?_eq_getElem (by omega), e0, c0] at k0
  rw [List.getElem?_eq_getElem (by omega), e1, c1] at k1
  obtain ⟨x0, r0⟩ := h0 enc w base spare held n _ _ k0
  obtain ⟨x1, r1⟩ := h1 enc w base spare held n _ _ k1
  exact ⟨(x0, x1), by omega, r0, r1⟩
theorem opens_three {α β γ : Type} {R : World → List Value → α → Prop} {S : World → List Value → β → Prop} {T : World → List Value → γ → Prop} {f0 f1 f2 : Field} {a0 n0 a1 n1 a2 n2 : Nat} (ht : P.underlying t = some (.struct #[f0, f1, f2])) (e0 : f0.offset = a0) (e1 : f1.offset = a1) (e2 : f2.offset = a2)
    (c0 : P.cellsOf f0.type = n0) (c1 : P.cellsOf f1.type = n1) (c2 : P.cellsOf f2.type = n2) (hn : P.cellsOf t = n0 + n1 + n2) (h0 : Opens P f0.type R) (h1 : Opens P f1.type S) (h2 : Opens P f2.type T) : Opens P t (RThree a0 n0 a1 n1 a2 n2 R S T) := fun enc w base spare held fuel cs x h => by
  obtain ⟨xs, n, _, _, hl, hxl, hx⟩ := DataW.trod_struct ht h
  have k0 := hx 0 f0 rfl
  have k1 := hx 1 f1 rfl
  have k2 := hx 2 f2 rfl
  simp only [List.size_toArray, List.length_cons, List.length_nil, Nat.zero_add, Nat.reduceAdd] at hxl
  rw [List.getElem?_eq_getElem (by omega), e0, c0] at k0
  rw [List.getElem?_eq_getElem (by omega), e1, c1] at k1
  rw [List.getElem?_eq_getElem (by omega), e2, c2] at k2
  obtain ⟨x0, r0⟩ := h0 enc w base spare held n _ _ k0
  obtain ⟨x1, r1⟩ := h1 enc w base spare held n _ _ k1
  obtain ⟨x2, r2⟩ := h2 enc w base spare held n _ _ k2
  exact ⟨(x0, x1, x2), by omega, r0, r1, r2⟩
end

/-! ### Back to the words that the walks go by -/
theorem rd_of_rslice {α : Type} {f : α → Value} {R : World → List Value → α → Prop} {w : World} {cs : List Value} {l : List α} (hR : ∀ ecs x, R w ecs x → ecs = [f x]) (h : RSlice 1 R w cs l) : ∃ A cap, cs = [.slice A l.length cap] ∧ l.length ≤ cap ∧ cap ≤ 9223372036854775807 ∧ Rd f w A l := by
  obtain ⟨A, cap, e, h1, h2, h3⟩ := h
  refine ⟨A, cap, e, h1, h2, fun hn => ?_⟩
  obtain ⟨b, o, rfl, hc⟩ := h3 hn
  refine ⟨b, o, rfl, fun i hi => ?_⟩
  obtain ⟨ecs, _, h5, h6⟩ := hc i hi
  have := hR _ _ h6
  subst this
  have := h5 0 (by simp)
  simpa using this
theorem bytes_of_r {w : World} {cs : List Value} {l : List UInt8} (h : RSlice 1 RByte w cs l) : ∃ A cap, cs = [.slice A l.length cap] ∧ l.length ≤ cap ∧ cap ≤ 9223372036854775807 ∧ Rd vB w A l := rd_of_rslice (fun _ _ h => h) h
theorem words_of_r {w : World} {cs : List Value} {l : List UInt32} (h : RSlice 1 RWord w cs l) : ∃ A cap, cs = [.slice A l.length cap] ∧ l.length ≤ cap ∧ cap ≤ 9223372036854775807 ∧ Rd vW w A l := rd_of_rslice (fun _ _ h => h) h
theorem arr_words {n : Nat} {w : World} {cs : List Value} {l : List UInt32} (h : RArr n RWord w cs l) : cs = l.map vW ∧ l.length = n := by
  obtain ⟨h1, h2, h3⟩ := h
  refine ⟨?_, h1⟩
  apply List.ext_getElem
  · simp; omega
  · intro i hi hi'
    have := h3 i (by omega)
    unfold RWord at this
    have h4 := congrArg (fun l => l[0]?) this
    simp only [List.getElem?_take, List.getElem?_drop, Nat.add_zero, List.getElem?_eq_getElem hi, Nat.zero_lt_one, if_true, List.getElem?_cons_zero, Option.some.injEq] at h4
    rw [h4]
    simp

/-! ### A value and its cells -/
theorem okWide_arr {P : Program} {w : World} {r : Reach} {base n : Nat} {t e : TypeId} {v : Value} (ht : P.underlying t = some (.array n e)) (h : Value.okWide P w r base t v) : ∃ cs, v = .agg cs ∧ cs.size = P.cellsOf t := by
  simp only [Value.okWide, ht] at h
  obtain ⟨cs, h1, h2, _⟩ := h
  exact ⟨cs, h1, h2⟩

end Go.Proofs.Yteppocjgodmpdaa
/-
  A parameter that is a slice of bytes, opened. No conditions.
-/
namespace Go.Proofs.Yteppocjgodmpdaa
set_option maxRecDepth 100000
open Go.RowKit Go.WideShapes
set_option linter.unusedSimpArgs false
set_option linter.unusedVariables false

theorem opens_bytes : Opens Try.prog 23 (RSlice 1 RByte) := opens_slice Try.underlying23 (by kernel_rfl) (by omega) (opens_byte Try.underlying5)
section
variable {H : Type} {enc : TypeId × Value → H} {W : World} {base b1 : Nat} {spare : Nat → Bool} {held : Bool} {r : Reach} {v : Value} {d : DataW H} {p : List MemPlace}
theorem open_bytes (hv : Value.okWide Try.prog W r base 23 v) (ht : DataW.Trod enc Try.prog W b1 spare held 23 v d p) : ∃ (l : List UInt8) (A : Option Addr) (cap : Nat), v = .slice A l.length cap ∧ l.length ≤ cap ∧ cap ≤ 9223372036854775807 ∧ Rd vB W A l := by
  obtain ⟨a, len, cap, rfl⟩ := okWide_slice Try.underlying23 hv
  obtain ⟨fuel, hf⟩ := ht
  obtain ⟨l, hl⟩ := opens_bytes enc W _ _ _ _ _ _ hf
  obtain ⟨A, c, e, h1, h2, h3⟩ := bytes_of_r hl
  simp [Value.cells] at e
  obtain ⟨rfl, rfl, rfl⟩ := e
  exact ⟨l, _, _, rfl, h1, h2, h3⟩
end
end Go.Proofs.Yteppocjgodmpdaa
/-
  Structs of four fields, opened. No conditions.
-/
namespace Go.Proofs.Yteppocjgodmpdaa
set_option maxRecDepth 100000
open Go.RowKit Go.Deep Go.WideShapes Go.ChangeShapes
set_option linter.unusedSimpArgs false
set_option linter.unusedVariables false

/-- Structs of four fields: each field's cells. -/
def RFour (a0 n0 a1 n1 a2 n2 a3 n3 : Nat) {α β γ δ : Type} (R : World → List Value → α → Prop) (S : World → List Value → β → Prop) (T : World → List Value → γ → Prop) (U : World → List Value → δ → Prop) : World → List Value → α × β × γ × δ → Prop := fun w cs x => cs.length = n0 + n1 + n2 + n3 ∧ R w ((cs.drop a0).take n0) x.1 ∧ S w ((cs.drop a1).take n1) x.2.1 ∧ T w ((cs.drop a2).take n2) x.2.2.1 ∧ U w ((cs.drop a3).take n3) x.2.2.2
theorem opens_four {P : Program} {t : TypeId} {α β γ δ : Type} {R : World → List Value → α → Prop} {S : World → List Value → β → Prop} {T : World → List Value → γ → Prop} {U : World → List Value → δ → Prop} {f0 f1 f2 f3 : Field} {a0 n0 a1 n1 a2 n2 a3 n3 : Nat} (ht : P.underlying t = some (.struct #[f0, f1, f2, f3])) (e0 : f0.offset = a0) (e1 : f1.offset = a1) (e2 : f2.offset = a2) (e3 : f3.offset = a3)
    (c0 : P.cellsOf f0.type = n0) (c1 : P.cellsOf f1.type = n1) (c2 : P.cellsOf f2.type = n2) (c3 : P.cellsOf f3.type = n3) (hn : P.cellsOf t = n0 + n1 + n2 + n3) (h0 : Opens P f0.type R) (h1 : Opens P f1.type S) (h2 : Opens P f2.type T) (h3 : Opens P f3.type U) : Opens P t (RFour a0 n0 a1 n1 a2 n2 a3 n3 R S T U) := fun enc w base spare held fuel cs x h => by
  obtain ⟨xs, n, _, _, hl, hxl, hx⟩ := DataW.trod_struct ht h
  have k0 := hx 0 f0 rfl
  have k1 := hx 1 f1 rfl
  have k2 := hx 2 f2 rfl
  have k3 := hx 3 f3 rfl
  simp only [List.size_toArray, List.length_cons, List.length_nil, Nat.zero_add, Nat.reduceAdd] at hxl
  rw [List.getElem?_eq_getElem (by omega), e0, c0] at k0
  rw [List.getElem?_eq_getElem (by omega), e1, c1] at k1
  rw [List.getElem?_eq_getElem (by omega), e2, c2] at k2
  rw [List.getElem?_eq_getElem (by omega), e3, c3] at k3
  obtain ⟨x0, r0⟩ := h0 enc w base spare held n _ _ k0
  obtain ⟨x1, r1⟩ := h1 enc w base spare held n _ _ k1
  obtain ⟨x2, r2⟩ := h2 enc w base spare held n _ _ k2
  obtain ⟨x3, r3⟩ := h3 enc w base spare held n _ _ k3
  exact ⟨(x0, x1, x2, x3), by omega, r0, r1, r2, r3⟩
end Go.Proofs.Yteppocjgodmpdaa
/-
  A parameter that is a payload, opened. No conditions.
-/
namespace Go.Proofs.Yteppocjgodmpdaa
set_option maxRecDepth 100000
open Go.RowKit Go.Deep Go.WideShapes Go.ChangeShapes
set_option linter.unusedSimpArgs false
set_option linter.unusedVariables false

theorem opens_payload : Opens Try.prog 25 (RFour 0 1 1 1 2 1 3 1 RNum RNum RNum (RSlice 1 RByte)) := opens_four Try.underlying25 rfl rfl rfl rfl (by kernel_rfl) (by kernel_rfl) (by kernel_rfl) (by kernel_rfl) (by kernel_rfl) (opens_num Try.underlying22) (opens_num Try.underlying22) (opens_num Try.underlying22) opens_bytes
section
variable {H : Type} {enc : TypeId × Value → H} {W : World} {base b1 : Nat} {spare : Nat → Bool} {held : Bool} {r : Reach} {v : Value} {d : DataW H} {p : List MemPlace}
theorem open_payload (hv : Value.okWide Try.prog W r base 25 v) (ht : DataW.Trod enc Try.prog W b1 spare held 25 v d p) : ∃ (t e c : Nat) (l : List UInt8) (A : Option Addr) (cap : Nat), v = aggP t e c A l.length cap ∧ t < 18446744073709551616 ∧ e < 18446744073709551616 ∧ c < 18446744073709551616 ∧ l.length ≤ cap ∧ cap ≤ 9223372036854775807 ∧ Rd vB W A l := by
  obtain ⟨cs, rfl, _⟩ := okWide_struct Try.underlying25 hv
  obtain ⟨fuel, hf⟩ := ht
  obtain ⟨⟨t, e, c, l⟩, hl, h0, h1, h2, h3⟩ := opens_payload enc W _ _ _ _ _ _ hf
  obtain ⟨A, k, e3, h4, h5, h6⟩ := bytes_of_r h3
  obtain ⟨e0, g0⟩ := h0
  obtain ⟨e1, g1⟩ := h1
  obtain ⟨e2, g2⟩ := h2
  refine ⟨t, e, c, l, A, k, ?_, g0, g1, g2, h4, h5, h6⟩
  unfold aggP
  congr 1
  apply Array.toList_inj.1
  simp only [Value.cells] at hl e0 e1 e2 e3
  match hcs : cs.toList, hl with
  | [x0, x1, x2, x3], _ =>
    rw [hcs] at e0 e1 e2 e3
    simp at e0 e1 e2 e3
    rw [e0, e1, e2, e3]
end
end Go.Proofs.Yteppocjgodmpdaa
/-
  The law FrameRight, at whatever comes in: it answers true, and writes nothing that was there. No conditions.
-/
namespace Go.Proofs.Yteppocjgodmpdaa
set_option maxRecDepth 100000
open Go.RowKit Go.WideShapes
set_option linter.unusedSimpArgs false
set_option linter.unusedVariables false

set_option maxRecDepth 100000 in
theorem frameright_big (t e c n m : Nat) (A B : Option Addr) (k d : Nat) (w : World) (h : ¬ (n ≤ 3000 ∧ m ≤ 3000)) (hn : n ≤ 9223372036854775807) (hm : m ≤ 9223372036854775807) :
    Calls Try.prog 3 #[aggP t e c A n k, .slice B m d] w fun e₁ w' => e₁ = .returned (.bool true) ∧ Below w.heap.size w w' := by
  obtain ⟨hRp, hB⟩ := box_pay w 25 (.int .u64 (t : Int)) (.int .u64 (e : Int)) (.int .u64 (c : Int)) (.slice A n k)
  unfold aggP
  go_enter Try.func3, Try.ntmps3
  go_upto_region 1 with fail
  generalize (w.alloc (.cells #[.int .u64 (t : Int), .int .u64 (e : Int), .int .u64 (c : Int), .slice A n k] 25)) = W0 at hRp hB ⊢
  go_wp2_with fail
  refine (awake12_any _).mono ?_
  rintro e₁ w1 ⟨rfl, hb⟩
  replace hRp := hRp.later hb
  replace hB := below_step hB hb
  clear hb
  have cl3 : w1.cell? ⟨w.heap.size, 3, none⟩ = some (.slice A n k) := hRp.cell rfl
  by_cases h1 : n ≤ 3000
  · have g1 : decide ((3000 : Int) < (n : Int)) = false := decide_eq_false (by omega)
    have g2 : decide ((3000 : Int) < (m : Int)) = true := decide_eq_true (by omega)
    have n1 : ¬ 3000 < n := by omega
    have n2 : 3000 < m := by omega
    clear h
    go_wp2_with fail
    go_ret
    exact ⟨rfl, hB⟩
  · have g1 : decide ((3000 : Int) < (n : Int)) = true := decide_eq_true (by omega)
    have n1 : 3000 < n := by omega
    clear h
    go_wp2_with fail
    go_ret
    exact ⟨rfl, hB⟩
theorem frameright_any (v0 v1 : Value) (W : World) {H : Type} {enc : TypeId × Value → H} {base : Nat} {d0 d1 : DataW H} {p0 p1 : List MemPlace}
    (hv0 : Value.okWide Try.prog W .any base 25 v0) (ht0 : DataW.Trod enc Try.prog W 0 (fun _ => true) true 25 v0 d0 p0) (hv1 : Value.okWide Try.prog W .any base 23 v1) (ht1 : DataW.Trod enc Try.prog W 0 (fun _ => true) true 23 v1 d1 p1) :
    Calls Try.prog 3 #[v0, v1] W fun e w' => e = .returned (.bool true) ∧ Below W.heap.size W w' := by
  obtain ⟨t, e, c, tag, A, k, rfl, ht, he, hc, hk, hkm, hr⟩ := open_payload hv0 ht0
  obtain ⟨b, B, d, rfl, hd, hdm, hb⟩ := open_bytes hv1 ht1
  by_cases h : tag.length ≤ 3000 ∧ b.length ≤ 3000
  · exact frameright_core t e c tag _ A k b _ B d W ht he hc (Lib.hid rfl) hr hk h.1 (Lib.hid rfl) hb hd h.2
  · exact frameright_big t e c _ _ A B k d W h (by omega) (by omega)
end Go.Proofs.Yteppocjgodmpdaa
