/-
  What the reference's calls Same, Msg and Write of layer 12 answer. No conditions but those typed.
-/
import Derived.Test.YteppocjgodmpdaaQ1
import Derived.Deep.DeepCutAuto
import Derived.Maps.AppendAt
import Derived.Lib.AppendZeros
import Derived.RangeFuncBox
namespace Go.Proofs.Yteppocjgodmpdaa
set_option maxRecDepth 100000
open Go.RowKit
set_option linter.unusedSimpArgs false
set_option linter.unusedVariables false

set_option maxRecDepth 100000 in
set_option maxHeartbeats 1000000 in
theorem refsame_pay (t e c t' e' c' : Nat) (g g' : List UInt8) (n n' : Nat) (A A' : Option Addr) (k k' : Nat) (w : World) (HN : Hid (g.length = n)) (HN' : Hid (g'.length = n')) (hr : Rd vB w A g) (hr' : Rd vB w A' g') :
    Calls Try.prog 11 #[aggP t e c A n k, aggP t' e' c' A' n' k'] w fun e₁ w' => e₁ = .returned (.bool (sameF t e c g t' e' c' g')) ∧ Below w.heap.size w w' := by
  obtain ⟨hR0, hB0⟩ := box_pay w 25 (.int .u64 (t : Int)) (.int .u64 (e : Int)) (.int .u64 (c : Int)) (.slice A n k)
  obtain ⟨hR1, hB1⟩ := box_pay (w.alloc (.cells #[.int .u64 (t : Int), .int .u64 (e : Int), .int .u64 (c : Int), .slice A n k] 25)) 25 (.int .u64 (t' : Int)) (.int .u64 (e' : Int)) (.int .u64 (c' : Int)) (.slice A' n' k')
  replace hR0 := hR0.later hB1
  have hsz : (w.alloc (.cells #[.int .u64 (t : Int), .int .u64 (e : Int), .int .u64 (c : Int), .slice A n k] 25)).heap.size = w.heap.size + 1 := by simp
  rw [hsz] at hR1
  have hB := below_step hB0 hB1
  replace hr := hr.keep hB
  replace hr' := hr'.keep hB
  obtain ⟨E, hE⟩ : ∃ E, sameF t e c g t' e' c' g' = E := ⟨_, rfl⟩
  rw [hE]
  unfold aggP
  go_enter Try.func11, Try.ntmps11
  go_upto_region 1 with fail
  generalize (w.alloc (.cells #[.int .u64 (t : Int), .int .u64 (e : Int), .int .u64 (c : Int), .slice A n k] 25)).alloc (.cells #[.int .u64 (t' : Int), .int .u64 (e' : Int), .int .u64 (c' : Int), .slice A' n' k'] 25) = W at hR0 hR1 hB hr hr' ⊢
  have c0 : W.cell? ⟨w.heap.size, 0, none⟩ = some (.int .u64 (t : Int)) := hR0.cell rfl
  have c1 : W.cell? ⟨w.heap.size, 1, none⟩ = some (.int .u64 (e : Int)) := hR0.cell rfl
  have c2 : W.cell? ⟨w.heap.size, 2, none⟩ = some (.int .u64 (c : Int)) := hR0.cell rfl
  have c3 : W.cell? ⟨w.heap.size, 3, none⟩ = some (.slice A n k) := hR0.cell rfl
  have d0 : W.cell? ⟨w.heap.size + 1, 0, none⟩ = some (.int .u64 (t' : Int)) := hR1.cell rfl
  have d1 : W.cell? ⟨w.heap.size + 1, 1, none⟩ = some (.int .u64 (e' : Int)) := hR1.cell rfl
  have d2 : W.cell? ⟨w.heap.size + 1, 2, none⟩ = some (.int .u64 (c' : Int)) := hR1.cell rfl
  have d3 : W.cell? ⟨w.heap.size + 1, 3, none⟩ = some (.slice A' n' k') := hR1.cell rfl
  clear hR0 hR1 hB0 hB1 hsz
  by_cases h0 : t = t'
  · subst h0
    by_cases h1 : e = e'
    · subst h1
      by_cases h2 : c = c'
      · subst h2
        have hs1 : (convert 23 9 (.slice A n k)).run Try.prog W = .ok (.string (strL g)) W := run_str W _ _ _ Try.underlying23 Try.underlying5 Try.underlying9 A g n k HN.out hr
        have hs2 : (convert 23 9 (.slice A' n' k')).run Try.prog W = .ok (.string (strL g')) W := run_str W _ _ _ Try.underlying23 Try.underlying5 Try.underlying9 A' g' n' k' HN'.out hr'
        have hst : ((strL g).toList == (strL g').toList) = E := by
          rw [strL_toList, strL_toList, ← hE]
          unfold sameF
          rw [Bool.eq_iff_iff, beq_iff_eq, decide_eq_true_iff]
          simp
        clear hE
        go_wp2_with fail
        go_ret
        exact ⟨rfl, hB⟩
      · have eE : E = false := by rw [← hE]; unfold sameF; exact decide_eq_false (fun h => h2 h.2.2.1)
        have hne : ((c : Int) == (c' : Int)) = false := beq_eq_false_iff_ne.2 (by omega)
        clear hE
        subst eE
        go_wp2_with fail
        go_ret
        exact ⟨rfl, hB⟩
    · have eE : E = false := by rw [← hE]; unfold sameF; exact decide_eq_false (fun h => h1 h.2.1)
      have hne : ((e : Int) == (e' : Int)) = false := beq_eq_false_iff_ne.2 (by omega)
      clear hE
      subst eE
      go_wp2_with fail
      go_ret
      exact ⟨rfl, hB⟩
  · have eE : E = false := by rw [← hE]; unfold sameF; exact decide_eq_false (fun h => h0 h.1)
    have hne : ((t : Int) == (t' : Int)) = false := beq_eq_false_iff_ne.2 (by omega)
    clear hE
    subst eE
    go_wp2_with fail
    go_ret
    exact ⟨rfl, hB⟩

/-! ### Msg -/
theorem refputF_at (v : Nat) (hv : v < 18446744073709551616) (w : World) : Calls Try.prog 23 #[.int .u64 (v : Int)] w fun e w' => ∃ A c, e = .returned (.slice A 8 c) ∧ 8 ≤ c ∧ Rd vB w' A (putL v) ∧ Below w.heap.size w w' :=
  (refput_any v hv w).mono fun e w' ⟨A, c, h1, h2, h3, h4⟩ => ⟨A, c, h1, h2, h3, h4⟩
set_option maxHeartbeats 1000000 in
theorem refmsg_any (t e c : Nat) (w : World) (ht : t < 18446744073709551616) (he : e < 18446744073709551616) (hc : c < 18446744073709551616) :
    Calls Try.prog 13 #[.int .u64 (t : Int), .int .u64 (e : Int), .int .u64 (c : Int)] w (RetZ w (msgF t e c)) := by
  obtain ⟨i0, hi, hz0, hz1, hz2⟩ := info_parts info_u8
  have HT := Lib.hid ht
  have HE := Lib.hid he
  have HC := Lib.hid hc
  have HM : Hid (msgF t e c = 67 :: (putL t ++ (putL e ++ putL c))) := rfl
  have l0 : (putL t).length = 8 := rfl
  have l1 : (putL e).length = 8 := rfl
  have l2 : (putL c).length = 8 := rfl
  clear ht he hc
  go_enter Try.func13, Try.ntmps13
  go_wp2_with fail
  have hb0 := below_new (Below.refl w.heap.size w) (.cells #[.int .u8 67] 5)
  have hown0 : (w.alloc (.cells #[.int .u8 67] 5)).ownsRow w.heap.size 5 1 (.slice (some ⟨w.heap.size, 0, none⟩) 1 1) 1 ([(67 : UInt8)].map vB) := own_lit w 5 [.int .u8 67] _ rfl (by unfold maxLen; simp)
  refine (refputF_at t HT.out _).mono ?_
  rintro ee w1 ⟨A1, c1, rfl, hc1, hr1, hb1⟩
  replace hown0 := ownsRow_later hown0 hb1
  have hB1 := below_step hb0 hb1
  have hs1 := hB1.size
  clear hb0 hb1
  go_wp2_with (at_builtin; refine wpList_append_rd _ rfl (.tmp 8) (.tmp 10) 23 rfl w.heap.size 5 i0 (.int .u8 0) 1 Try.underlying23 hi hz0 hz1 hz2 rfl _ _ _ rfl hown0 A1 (putL t) c1 (by rw [l0]; rfl) hr1 vB_one (by rw [l0]; unfold maxLen; omega) (by rw [l0]; omega) (by omega) ?_; intro v11 w11 hown11 hgrow11)
  have hB2 : Below w.heap.size w w11 := hB1.grown hgrow11 hs1 (fun k hk => (hown0.lt k hk).1)
  rw [l0] at hown11
  clear hown0 hgrow11 hB1 hs1 hr1
  refine (refputF_at e HE.out _).mono ?_
  rintro ee w2 ⟨A2, c2, rfl, hc2, hr2, hb2⟩
  replace hown11 := ownsRow_later hown11 hb2
  have hB3 := below_step hB2 hb2
  have hs3 := hB3.size
  clear hb2 hB2
  go_wp2_with (at_builtin; refine wpList_append_rd _ rfl (.tmp 12) (.tmp 14) 23 rfl w.heap.size 5 i0 (.int .u8 0) 1 Try.underlying23 hi hz0 hz1 hz2 rfl _ _ _ rfl hown11 A2 (putL e) c2 (by rw [l1]; rfl) hr2 vB_one (by rw [l1]; unfold maxLen; omega) (by rw [l1]; omega) (by omega) ?_; intro v12 w12 hown12 hgrow12)
  have hB4 : Below w.heap.size w w12 := hB3.grown hgrow12 hs3 (fun k hk => (hown11.lt k hk).1)
  rw [l1] at hown12
  clear hown11 hgrow12 hB3 hs3 hr2
  refine (refputF_at c HC.out _).mono ?_
  rintro ee w3 ⟨A3, c3, rfl, hc3, hr3, hb3⟩
  replace hown12 := ownsRow_later hown12 hb3
  have hB5 := below_step hB4 hb3
  have hs5 := hB5.size
  clear hb3 hB4
  go_wp2_with (at_builtin; refine wpList_append_rd _ rfl (.tmp 16) (.tmp 18) 23 rfl w.heap.size 5 i0 (.int .u8 0) 1 Try.underlying23 hi hz0 hz1 hz2 rfl _ _ _ rfl hown12 A3 (putL c) c3 (by rw [l2]; rfl) hr3 vB_one (by rw [l2]; unfold maxLen; omega) (by rw [l2]; omega) (by omega) ?_; intro v13 w13 hown13 hgrow13)
  have hB6 : Below w.heap.size w w13 := hB5.grown hgrow13 hs5 (fun k hk => (hown12.lt k hk).1)
  go_ret
  rw [HM.out]
  have eM : (67 :: (putL t ++ (putL e ++ putL c))).map vB = [(67 : UInt8)].map vB ++ (putL t).map vB ++ (putL e).map vB ++ (putL c).map vB := by simp
  rw [l2] at hown13
  rw [← eM] at hown13
  exact RetZ.own (n := 1 + 8 + 8 + 8) (by simp [l0, l1, l2]) hown13 hB6
end Go.Proofs.Yteppocjgodmpdaa
/-
  append of what reads as a list onto a row of the call's own: the row's block behind it is the one it was, or a new one; blocks known whole stay (no program is named here). No conditions but those typed.
-/
namespace Go.Proofs.Yteppocjgodmpdaa
set_option maxRecDepth 100000
open Go.RowKit

theorem Row.grown {w w' : World} {g : Nat} {t : TypeId} {l : List Value} {row : Option Nat} (h : Row w g t l) (hg : w.grownBy w' row) (hn : row ≠ some g) : Row w' g t l :=
  (hg.block g h.lt (fun e => hn e.symm)).trans h
/-- Apart from a block that was there. -/
theorem apart_of {w : World} {v v' : Value} {g : Nat} (h : v.ownBlock ≠ some g) (hg : g < w.heap.size) (hat : v'.ownBlock = v.ownBlock ∨ v'.ownBlock = some w.heap.size) : v'.ownBlock ≠ some g := by
  rcases hat with e | e
  · rw [e]; exact h
  · rw [e]
    intro h
    injection h with h
    omega
section
variable {P : Program} (w : World)
theorem run_append_apart {α : Type} {f : α → Value} (base : Nat) (t ty e : TypeId) (i : TypeInfo) (z : Value) (bytes : Nat) (ht : P.underlying t = some (.slice e)) (hi : P.info? e = some i) (hz : i.zero = some z)
    (hsize : i.size = 1) (hby : i.bytes = bytes) (hzs : z.cells.size = 1) (v : Value) (n : Nat) (xs : List Value) (hown : w.ownsRow base e 1 v n xs)
    (A : Option Addr) (l : List α) (c : Nat) (hr : Rd f w A l) (h1 : ∀ x, (f x).oneCell' = true)
    (h63 : n + l.length ≤ maxLen) (hbytes : (n + l.length) * bytes ≤ 140737488355328) (hbase : base ≤ w.heap.size) :
    ∃ v' w', (Builtin.append_ #[t, t] ty #[v, .slice A l.length c]).run P w = .ok v' w' ∧ w'.ownsRow base e 1 v' (n + l.length) (xs ++ l.map f) ∧ w.grownBy w' v.ownBlock ∧ (v'.ownBlock = v.ownBlock ∨ v'.ownBlock = some w.heap.size) := by
  have hone : ∀ u ∈ l.map f, u.oneCell' = true := by
    intro u hu
    simp only [List.mem_map] at hu
    obtain ⟨x, _, rfl⟩ := hu
    exact h1 x
  by_cases hl : l = []
  · subst hl
    cases A with
    | none => exact ⟨v, w, run_append_nothing_of w base t ty e i ht hi v n xs hown c, by simpa using hown, ⟨rfl, rfl, rfl, Nat.le_refl _, fun _ _ _ => rfl⟩, .inl rfl⟩
    | some ad =>
      obtain ⟨v', w', hrun, h2, h3, _, h4⟩ := run_append_own_at (P := P) w base t ty e i z 1 bytes ht hi hz hsize hby hzs (by omega) v n xs hown ad 0 c [] rfl (fun j u h => by simp at h) (fun u h => by simp at h) h63 hbytes hbase
      exact ⟨v', w', hrun, h2, h3, h4⟩
  · obtain ⟨b, o, rfl, _⟩ := hr hl
    obtain ⟨v', w', hrun, h2, h3, _, h4⟩ := run_append_own_at (P := P) w base t ty e i z 1 bytes ht hi hz hsize hby hzs (by omega) v n xs hown ⟨b, o, none⟩ l.length c (l.map f) (by simp) hr.news hone h63 hbytes hbase
    exact ⟨v', w', hrun, h2, h3, h4⟩

theorem wp_append_apart {α : Type} {f : α → Value} {o : Oper} {a : Act} {K : Act → World → Prop} {Q : Exit → Act → World → Prop} (s x : Operand) (t : TypeId)
    (ho : o.op = .call { callee := .builtin .append, args := #[s, x], argTypes := #[t, t] })
    (base : Nat) (e : TypeId) (i : TypeInfo) (z : Value) (bytes : Nat) (ht : P.underlying t = some (.slice e)) (hi : P.info? e = some i) (hz : i.zero = some z)
    (hsize : i.size = 1) (hby : i.bytes = bytes) (hzs : z.cells.size = 1) (v : Value) (n : Nat) (xs : List Value) (hs : a.eval s = v) (hown : w.ownsRow base e 1 v n xs)
    (A : Option Addr) (l : List α) (c : Nat) (hx : a.eval x = .slice A l.length c) (hr : Rd f w A l) (h1 : ∀ x, (f x).oneCell' = true)
    (h63 : n + l.length ≤ maxLen) (hbytes : (n + l.length) * bytes ≤ 140737488355328) (hbase : base ≤ w.heap.size)
    (h : ∀ v' w', w'.ownsRow base e 1 v' (n + l.length) (xs ++ l.map f) → w.grownBy w' v.ownBlock → (v'.ownBlock = v.ownBlock ∨ v'.ownBlock = some w.heap.size) → K (a.put o.dst v') w') : o.wp P a w K Q := by
  obtain ⟨v', w', hr, h2, h3, h4⟩ := run_append_apart (P := P) w base t o.type e i z bytes ht hi hz hsize hby hzs v n xs hown A l c hr h1 h63 hbytes hbase
  unfold Oper.wp execOp
  simp only [ho, resolve, invoke, builtin, Sem.run_bind, Sem.run_pure, Result.andThen_ok, List.map_toArray, List.map_cons, List.map_nil, hs, hx, hr]
  exact h v' w' h2 h3 h4

theorem wpList_append_apart {α : Type} {f : α → Value} {ops : Array Oper} {rest : List Oper} {o : Oper} {a : Act} {Q : Exit → Act → World → Prop} (hgd : o.guard = none) (s x : Operand) (t : TypeId)
    (ho : o.op = .call { callee := .builtin .append, args := #[s, x], argTypes := #[t, t] })
    (base : Nat) (e : TypeId) (i : TypeInfo) (z : Value) (bytes : Nat) (ht : P.underlying t = some (.slice e)) (hi : P.info? e = some i) (hz : i.zero = some z)
    (hsize : i.size = 1) (hby : i.bytes = bytes) (hzs : z.cells.size = 1) (v : Value) (n : Nat) (xs : List Value) (hs : a.eval s = v) (hown : w.ownsRow base e 1 v n xs)
    (A : Option Addr) (l : List α) (c : Nat) (hx : a.eval x = .slice A l.length c) (hr : Rd f w A l) (h1 : ∀ x, (f x).oneCell' = true)
    (h63 : n + l.length ≤ maxLen) (hbytes : (n + l.length) * bytes ≤ 140737488355328) (hbase : base ≤ w.heap.size)
    (h : ∀ v' w', w'.ownsRow base e 1 v' (n + l.length) (xs ++ l.map f) → w.grownBy w' v.ownBlock → (v'.ownBlock = v.ownBlock ∨ v'.ownBlock = some w.heap.size) → wpList P ops Q rest (a.put o.dst v') w') : wpList P ops Q (o :: rest) a w :=
  wpList_plain hgd fun _ hK => wp_append_apart w s x t ho base e i z bytes ht hi hz hsize hby hzs v n xs hs hown A l c hx hr h1 h63 hbytes hbase fun v' w' h2 h3 h4 => hK _ _ (h v' w' h2 h3 h4)
end
end Go.Proofs.Yteppocjgodmpdaa
/-
  What the reference's call Write of layer 12 answers. No conditions but those typed.
-/
namespace Go.Proofs.Yteppocjgodmpdaa
set_option maxRecDepth 100000
open Go.RowKit
set_option linter.unusedSimpArgs false
set_option linter.unusedVariables false

def preF (N : List Nat) (i : Nat) : List UInt8 := 87 :: (N.take i).flatMap numF
theorem pre_next (N : List Nat) (i : Nat) (h : i < N.length) : preF N (i + 1) = preF N i ++ numF N[i] := by
  unfold preF
  rw [List.take_succ_eq_append_getElem h, List.flatMap_append, List.cons_append]
  simp
theorem pre_length (N : List Nat) (i : Nat) : (preF N i).length ≤ 1 + 9 * i := by
  induction i with
  | zero => simp [preF]
  | succ i ih =>
    rcases Nat.lt_or_ge i N.length with h | h
    · rw [pre_next N i h, List.length_append]
      have := (num_length N[i]).2
      omega
    · have e : preF N (i + 1) = preF N i := by unfold preF; rw [List.take_of_length_le (by omega), List.take_of_length_le h]
      rw [e]
      omega
theorem pre_write (t e c : Nat) (tag : List UInt8) : preF [t, e, c] 3 ++ tag = writeF t e c tag := by simp [preF, writeF]
def uV (x : Nat) : Value := .int .u64 (x : Int)
def WrR (N : List Nat) (cp : List Value) (w : World) (v iv : Value) (wr : World) : Prop :=
  ∃ i : Nat, i ≤ 3 ∧ iv = .int .i64 (i : Int) ∧ wr.ownsRow (w.heap.size + 1) 5 1 v (preF N i).length ((preF N i).map vB) ∧ v.ownBlock ≠ some (w.heap.size + 2) ∧ Row wr w.heap.size 25 cp ∧ Row wr (w.heap.size + 2) 22 (N.map uV) ∧ Below w.heap.size w wr

set_option maxRecDepth 100000 in
set_option maxHeartbeats 2000000 in
theorem refwriteF_any (t e c : Nat) (tag : List UInt8) (n : Nat) (A : Option Addr) (k : Nat) (w : World) (ht : t < 18446744073709551616) (he : e < 18446744073709551616) (hc : c < 18446744073709551616) (HN : Hid (tag.length = n)) (hr : Rd vB w A tag) (hn : n ≤ 100000) :
    Calls Try.prog 7 #[aggP t e c A n k] w (RetZ w (writeF t e c tag)) := by
  obtain ⟨i0, hi, hz0, hz1, hz2⟩ := info_parts info_u8
  obtain ⟨hR0, hB0⟩ := box_pay w 25 (.int .u64 (t : Int)) (.int .u64 (e : Int)) (.int .u64 (c : Int)) (.slice A n k)
  have hsz : (w.alloc (.cells #[.int .u64 (t : Int), .int .u64 (e : Int), .int .u64 (c : Int), .slice A n k] 25)).heap.size = w.heap.size + 1 := by simp
  have HALL : Hid (∀ x ∈ [t, e, c], x < 18446744073709551616) := fun x hx => by
    simp at hx
    rcases hx with rfl | rfl | rfl <;> assumption
  unfold aggP
  go_enter Try.func7, Try.ntmps7
  go_upto_region 1 with fail
  generalize (w.alloc (.cells #[.int .u64 (t : Int), .int .u64 (e : Int), .int .u64 (c : Int), .slice A n k] 25)) = W0 at hR0 hB0 hsz ⊢
  have hown0 := own_lit W0 5 ([(87 : UInt8)].map vB) #[.int .u8 87] rfl (by unfold maxLen; simp)
  have hbn := below_new (Below.refl W0.heap.size W0) (.cells #[.int .u8 87] 5)
  have hs1 : (W0.alloc (.cells #[.int .u8 87] 5)).heap.size = w.heap.size + 2 := by simp; omega
  rw [hsz] at hown0
  replace hR0 := hR0.later hbn
  replace hB0 := below_step hB0 hbn
  go_upto_region 2 with fail
  generalize W0.alloc (.cells #[.int .u8 87] 5) = W1 at hown0 hR0 hB0 hs1 ⊢
  have c0 : W1.cell? ⟨w.heap.size, 0, none⟩ = some (.int .u64 (t : Int)) := hR0.cell rfl
  have c1 : W1.cell? ⟨w.heap.size, 1, none⟩ = some (.int .u64 (e : Int)) := hR0.cell rfl
  have c2 : W1.cell? ⟨w.heap.size, 2, none⟩ = some (.int .u64 (c : Int)) := hR0.cell rfl
  have hR2 : Row (W1.alloc (.cells #[.int .u64 (t : Int), .int .u64 (e : Int), .int .u64 (c : Int)] 22)) (w.heap.size + 2) 22 ([t, e, c].map uV) := Row.new_at _ _ hs1.symm _ _ _ rfl
  have hbn2 := below_new (Below.refl W1.heap.size W1) (.cells #[.int .u64 (t : Int), .int .u64 (e : Int), .int .u64 (c : Int)] 22)
  replace hown0 := ownsRow_later hown0 hbn2
  replace hR0 := hR0.later hbn2
  replace hB0 := below_step hB0 hbn2
  clear hbn hbn2
  go_upto_region 3 with fail
  generalize W1.alloc (.cells #[.int .u64 (t : Int), .int .u64 (e : Int), .int .u64 (c : Int)] 22) = W2 at hown0 hR0 hR2 hB0 ⊢
  have HPW : Hid (preF [t, e, c] 3 ++ tag = writeF t e c tag) := pre_write t e c tag
  clear c0 c1 c2 hs1 hsz ht he hc
  have hN3 : [t, e, c].length = 3 := rfl
  generalize [t, e, c] = N at hR2 HALL HPW hN3
  go_wp2_with fail
  go_loopw [3, 5] (fun v iv wr => WrR N [.int .u64 (t : Int), .int .u64 (e : Int), .int .u64 (c : Int), .slice A n k] w v iv wr) (fun _ i _ => 3 - (intOf i).toNat)
  case atStart => exact ⟨0, by omega, rfl, hown0, by simp [Value.ownBlock], hR0, hR2, hB0⟩
  case round =>
    clear hown0 hR0 hR2 hB0
    obtain ⟨i, hi3, rfl, hown, hap, hRp, hRn, hbel⟩ := hrel
    have hpl := pre_length N i
    by_cases h : i < 3
    · have hiN : i < N.length := by omega
      have HPN := Lib.hid (pre_next N i hiN)
      have hx := HALL.out N[i] (List.getElem_mem hiN)
      have hcell : wr.cell? ⟨w.heap.size + 2, i, none⟩ = some (.int .u64 (N[i] : Int)) := hRn.cell (by simp [hiN, uV])
      have i1 : (i : Int) < 3 := by omega
      have i0' : (0 : Int) ≤ (i : Int) := by omega
      generalize N[i] = x at hx hcell HPN
      have HX := Lib.hid hx
      generalize preF N i = P at hown hpl HPN
      clear hx
      go_wp2_with fail
      refine (refleast_own x HX.out _).mono ?_
      rintro ee w1 ⟨vx, rfl, hownx, hb1⟩
      obtain ⟨A1, c1, rfl, hc1, hr1⟩ := own_slice hownx
      have hA1 : ∀ a, A1 = some a → wr.heap.size ≤ a.block := fun a ha => (hownx.lt a.block (by rw [ha]; rfl)).1
      have hvb : ∀ b, Value.ownBlock u3 = some b → b < wr.heap.size := fun b hb => (hown.lt b hb).2
      clear hownx
      have hll := leastL_length x
      have HNM : Hid (numF x = UInt8.ofNat (leastL x).length :: leastL x) := rfl
      generalize leastL x = L at hc1 hr1 hll HNM
      obtain ⟨m, hm⟩ : ∃ m, L.length = m := ⟨_, rfl⟩
      have hy : (UInt8.ofNat m).toNat = m := by rw [UInt8.toNat_ofNat']; omega
      have HM := Lib.hid hm
      rw [hm] at hc1 hll HNM ⊢
      generalize UInt8.ofNat m = y at hy HNM
      have hyi : IntKind.u8.wrap (m : Int) = (y.toNat : Int) := by rw [IntKind.wrap_u8', hy]; omega
      have hyj : (m : Int) % 256 = (y.toNat : Int) := by rw [hy]; omega
      have hown1 := ownsRow_later hown hb1
      have hRp1 := hRp.later hb1
      have hRn1 := hRn.later hb1
      have hB1 := below_step hbel hb1
      have hsz1 := hB1.size
      have hgl := hRn.lt
      have hs11 := hb1.size
      have hry : Rd vB (w1.alloc (.cells #[.int .u8 (y.toNat : Int)] 5)) (some ⟨w1.heap.size, 0, none⟩) [y] := Rd.new w1 [y] _ _ rfl
      have hbn := below_new (Below.refl w1.heap.size w1) (.cells #[.int .u8 (y.toNat : Int)] 5)
      have hbs := hbn.size
      replace hown1 := ownsRow_later hown1 hbn
      replace hRp1 := hRp1.later hbn
      replace hRn1 := hRn1.later hbn
      replace hr1 := hr1.keep hbn
      replace hB1 := below_step hB1 hbn
      clear hown hRp hRn hbel hb1 hbn hm hy hcell
      go_upto_region 8 with (at_builtin; refine wpList_append_apart _ rfl (.tmp 24) (.tmp 28) 23 rfl (w.heap.size + 1) 5 i0 (.int .u8 0) 1 Try.underlying23 hi hz0 hz1 hz2 rfl _ _ _ rfl hown1 _ ([y]) 1 rfl hry vB_one (by show P.length + 1 ≤ maxLen; unfold maxLen; omega) (by show (P.length + 1) * 1 ≤ _; omega) (by omega) ?_; intro v3 w3 hown3 hgrow3 hat3)
      have hap3 := apart_of hap (by omega) hat3
      have hB3 : Below w.heap.size w w3 := hB1.grown hgrow3 (by omega) (fun k hk => by have := (hown1.lt k hk).1; omega)
      have hRp3 := hRp1.grown hgrow3 (fun e => by have := (hown1.lt _ e).1; omega)
      have hRn3 := hRn1.grown hgrow3 hap
      have hr3 := hr1.grown hgrow3 (fun a ha e => by have h1 := hA1 a ha; have h2 := hvb _ e; omega)
      have hA1v : ∀ a, A1 = some a → Value.ownBlock v3 ≠ some a.block ∨ True := fun _ _ => .inr trivial
      clear hown1 hgrow3 hRp1 hRn1 hr1 hB1 hA1v
      have e1 : P.length + [y].length = (P ++ [y]).length := by rw [List.length_append]
      have e2 : P.map vB ++ [y].map vB = (P ++ [y]).map vB := by rw [List.map_append]
      rw [e1, e2] at hown3
      have hP1 : (P ++ [y]).length ≤ 100 := by rw [List.length_append]; simp; omega
      have HPP : Hid (preF N (i + 1) = (P ++ [y]) ++ L) := by unfold Hid; rw [HPN.out, HNM.out]; simp
      generalize P ++ [y] = P1 at hown3 hP1 HPP
      have hgl3 := hRn3.lt
      clear e1 e2 hap
      go_wp2_with (at_builtin; refine wpList_append_apart _ rfl (.tmp 30) (.tmp 31) 23 rfl (w.heap.size + 1) 5 i0 (.int .u8 0) 1 Try.underlying23 hi hz0 hz1 hz2 rfl _ _ _ rfl hown3 A1 L c1 (by rw [HM.out]; rfl) hr3 vB_one (by rw [HM.out]; unfold maxLen; omega) (by rw [HM.out]; omega) (by omega) ?_; intro v4 w4 hown4 hgrow4 hat4)
      have hB4 : Below w.heap.size w w4 := hB3.grown hgrow4 hB3.size (fun k hk => by have := (hown3.lt k hk).1; omega)
      have HREL : Hid (WrR N [.int .u64 (t : Int), .int .u64 (e : Int), .int .u64 (c : Int), .slice A n k] w v4 (.int .i64 ((i : Int) + 1)) w4) :=
        ⟨i + 1, by omega, by go_num, by rw [HPP.out, List.length_append, List.map_append]; exact hown4, apart_of hap3 hgl3 hat4, hRp3.grown hgrow4 (fun e => by have := (hown3.lt _ e).1; omega), hRn3.grown hgrow4 hap3, hB4⟩
      clear hown4 hgrow4 hown3 hB4 hB3 hRp3 hRn3
      go_wp2_with fail
      go_roundw
      case rel => exact HREL.out
      case measure => simp [intOf] <;> omega
    · have ei : i = 3 := by omega
      subst ei
      have hcell : wr.cell? ⟨w.heap.size, 3, none⟩ = some (.slice A n k) := hRp.cell rfl
      have hrt := hr.keep hbel
      have hs := hRn.lt
      have i1 : ¬ (3 : Int) < 3 := by omega
      generalize preF N 3 = P at hown hpl HPW
      go_wp2_with (at_builtin; refine wpList_append_apart _ rfl (.tmp 33) (.tmp 35) 23 rfl (w.heap.size + 1) 5 i0 (.int .u8 0) 1 Try.underlying23 hi hz0 hz1 hz2 rfl _ _ _ rfl hown A tag k (by rw [HN.out]; rfl) hrt vB_one (by rw [HN.out]; unfold maxLen; omega) (by rw [HN.out]; omega) (by omega) ?_; intro v4 w4 hown4 hgrow4 hat4)
      go_ret
      have hB4 : Below w.heap.size w w4 := hbel.grown hgrow4 hbel.size (fun k hk => by have := (hown.lt k hk).1; omega)
      rw [← HPW.out]
      rw [← List.map_append] at hown4
      exact RetZ.own (by rw [List.length_append]) hown4 hB4
end Go.Proofs.Yteppocjgodmpdaa
/-
  What bytes.Clone, slices.Clone, slices.Grow (of nil) and slices.Concat answer at lists of bytes: new memory that reads as the bytes did. Conditions: bounds on lengths, as typed.
-/
namespace Go.Proofs.Yteppocjgodmpdaa
set_option maxRecDepth 100000
open Go.RowKit
set_option linter.unusedSimpArgs false

/-- What a call that hands back a slice in new memory says of it. -/
def RetN {α : Type} (f : α → Value) (w : World) (l : List α) (e : Ending) (w' : World) : Prop :=
  ∃ A cap, e = .returned (.slice A l.length cap) ∧ l.length ≤ cap ∧ Rd f w' A l ∧ (∀ a, A = some a → w.heap.size ≤ a.block) ∧ Below w.heap.size w w'
theorem RetN.own {α : Type} {f : α → Value} {w w' : World} {l : List α} {e : TypeId} {v : Value} (h : w'.ownsRow w.heap.size e 1 v l.length (l.map f)) (hb : Below w.heap.size w w') : RetN f w l (.returned v) w' := by
  rcases h.2 with ⟨rfl, h0⟩ | ⟨g, cap, cur, rfl, hg, _, hc, _⟩
  · have hl : l = [] := List.eq_nil_of_length_eq_zero h0
    subst hl
    exact ⟨none, 0, rfl, Nat.le_refl _, Rd.nil, (fun a h => by cases h), hb⟩
  · exact ⟨_, cap, rfl, hc, Rd.own h, (fun a ha => by injection ha with ha; subst ha; exact hg), hb⟩
theorem RetN.ret {α : Type} {f : α → Value} {w w' : World} {l : List α} {e : Ending} (h : RetN f w l e w') : RetS f w l e w' := by
  obtain ⟨A, cap, h1, h2, h3, _, h5⟩ := h
  exact ⟨A, cap, h1, h2, h3, h5⟩

theorem clone_own (b : List UInt8) (A : Option Addr) (c : Nat) (w : World) (hr : Rd vB w A b) (hl : b.length ≤ 70368744177664) : Calls Try.prog 18 #[.slice A b.length c] w (RetO 5 vB w b) := by
  obtain ⟨i0, hi, hz0, hz1, hz2⟩ := info_parts info_u8
  cases A with
  | none =>
    have hb : b = [] := by
      by_cases h : b = []
      · exact h
      · obtain ⟨_, _, e, _⟩ := hr h
        cases e
    subst hb
    have hnil : ∀ W, (binOp .eql 23 (.slice none 0 c) (.slice none 0 0)).run Try.prog W = .ok (.bool true) W := fun W => Lib.run_eql_slice_nil W _ _ none 0 c 0 0 Try.underlying23
    go_enter Try.func18, Try.ntmps18
    go_wp2_with fail
    go_ret
    exact ⟨_, rfl, World.ownsRow_nil _ _ _ _, Below.refl _ _⟩
  | some a =>
    have hnil : ∀ W, (binOp .eql 23 (.slice (some a) b.length c) (.slice none 0 0)).run Try.prog W = .ok (.bool false) W := fun W => Lib.run_eql_slice_nil W _ _ (some a) b.length c 0 0 Try.underlying23
    have hown0 : (w.alloc (.cells #[] 5)).ownsRow w.heap.size 5 1 (.slice (some ⟨w.heap.size, 0, none⟩) 0 0) 0 [] := World.ownsRow_made w #[] 0 (Nat.le_refl _) (by unfold maxLen; omega) rfl
    have hr0 : Rd vB (w.alloc (.cells #[] 5)) (some a) b := hr.keep (below_new (Below.refl _ _) _)
    go_enter Try.func18, Try.ntmps18
    go_wp2_with (at_builtin; refine wpList_append_rd _ rfl (.tmp 5) (.tmp 6) 23 rfl w.heap.size 5 i0 (.int .u8 0) 1 Try.underlying23 hi hz0 hz1 hz2 rfl _ _ _ rfl hown0 (some a) b c rfl hr0 vB_one (by unfold maxLen; omega) (by omega) (by simp) ?_; intro v1 w1 hown1 hgrow1)
    go_ret
    rw [Nat.zero_add, List.nil_append] at hown1
    exact ⟨_, rfl, hown1, (below_new (Below.refl _ w) _).grown hgrow1 (by simp) (fun k hk => (hown0.lt k hk).1)⟩
theorem clone_b (b : List UInt8) (A : Option Addr) (c : Nat) (w : World) (hr : Rd vB w A b) (hl : b.length ≤ 70368744177664) : Calls Try.prog 18 #[.slice A b.length c] w (RetN vB w b) :=
  (clone_own b A c w hr hl).mono fun e w' ⟨v, he, ho, hb⟩ => by subst he; exact RetN.own ho hb



/-- A part of what is put together: its memory, its room, its bytes. -/
structure Part where
  A : Option Addr
  cap : Nat
  l : List UInt8
def vPart (p : Part) : Value := .slice p.A p.l.length p.cap
def flatL (ps : List Part) : List UInt8 := ps.flatMap (·.l)
theorem flatL_take (ps : List Part) (k : Nat) (h : k < ps.length) : flatL (ps.take (k + 1)) = flatL (ps.take k) ++ ps[k].l := by
  unfold flatL
  rw [List.take_succ_eq_append_getElem h, List.flatMap_append]
  simp
theorem flatL_le (ps : List Part) (k : Nat) : (flatL (ps.take k)).length ≤ (flatL ps).length := by
  conv => rhs; rw [← List.take_append_drop k ps]
  unfold flatL
  rw [List.flatMap_append, List.length_append]
  omega



end Go.Proofs.Yteppocjgodmpdaa
/-
  What word.Put answers, in memory of its own; an array of three numbers, at a place; calls that hand back a list of bytes and an error. No conditions but those typed.
-/
namespace Go.Proofs.Yteppocjgodmpdaa
set_option maxRecDepth 100000
open Go.RowKit
set_option linter.unusedSimpArgs false
set_option linter.unusedVariables false

/-- A call that hands back a list of bytes and an error. -/
def RetV (w : World) (l : List UInt8) (k : Int) (e : Ending) (w' : World) : Prop := ∃ A n c, e = .returned (.tuple #[.slice A n c, .int .i64 k]) ∧ Hid (l.length = n) ∧ n ≤ c ∧ Rd vB w' A l ∧ Below w.heap.size w w'

theorem put_new (v : Nat) (hv : v < 18446744073709551616) (w : World) :
    Calls Try.prog 22 #[.int .u64 (v : Int)] w (RetN vB w (putL v)) := by
  have hmk : ∀ w, (Instr.makeSlice 23 (.int .i64 8) (.int .i64 8)).run Try.prog w = .ok (.slice (some ⟨w.heap.size, 0, none⟩) 8 8) (w.alloc (.cells #[.int .u8 0, .int .u8 0, .int .u8 0, .int .u8 0, .int .u8 0, .int .u8 0, .int .u8 0, .int .u8 0] 5)) := fun _ => by kernel_rfl
  go_enter Try.func22, Try.ntmps22
  go_wp2
  refine wp_loop_rounds 9 ?_
  iterate 9 (rw [rounds_succ]; go_wp2)
  go_ret
  exact ⟨_, 8, rfl, Nat.le_refl _, Rd.new _ _ _ _ (put_cells v hv), (fun a ha => by injection ha with ha; subst ha; exact Nat.le_refl _), (Below.refl _ _).alloc (Nat.le_refl _) _⟩
theorem index_three (N : List Nat) (a b c : Nat) (hN : N = [a, b, c]) (i : Nat) (h : i < N.length) (W : World) : (Instr.index 40 (.agg #[.int .u64 (a : Int), .int .u64 (b : Int), .int .u64 (c : Int)]) (.int .i64 (i : Int))).run Try.prog W = .ok (.int .u64 (N[i] : Int)) W := by
  subst hN
  have hi : i = 0 ∨ i = 1 ∨ i = 2 := by simp at h; omega
  rcases hi with rfl | rfl | rfl
  · exact ((by kernel_rfl : (Instr.index 40 (.agg #[.int .u64 (a : Int), .int .u64 (b : Int), .int .u64 (c : Int)]) (.int .i64 0)).run Try.prog W = .ok (.int .u64 (a : Int)) W))
  · exact ((by kernel_rfl : (Instr.index 40 (.agg #[.int .u64 (a : Int), .int .u64 (b : Int), .int .u64 (c : Int)]) (.int .i64 1)).run Try.prog W = .ok (.int .u64 (b : Int)) W))
  · exact ((by kernel_rfl : (Instr.index 40 (.agg #[.int .u64 (a : Int), .int .u64 (b : Int), .int .u64 (c : Int)]) (.int .i64 2)).run Try.prog W = .ok (.int .u64 (c : Int)) W))
theorem put_at (v : Nat) (hv : v < 18446744073709551616) (w : World) : Calls Try.prog 22 #[.int .u64 (v : Int)] w fun e w' => ∃ A c, e = .returned (.slice A 8 c) ∧ 8 ≤ c ∧ Rd vB w' A (putL v) ∧ Below w.heap.size w w' :=
  (put_new v hv w).mono fun e w' ⟨A, c, h1, h2, h3, _, h4⟩ => ⟨A, c, h1, h2, h3, h4⟩
theorem cut_mid (A : Option Addr) (n cap lo m : Nat) (h : lo + m ≤ cap) (W : World) : (Instr.slice 23 (.slice A n cap) (some (.int .i64 (lo : Int))) (some (.int .i64 ((lo : Int) + (m : Int)))) none).run Try.prog W = .ok (.slice (if cap = lo then A else A.map (·.add (lo * 1))) m (cap - lo)) W := by
  have he : Try.prog.elem 23 = 5 := by simp [Program.elem, Try.underlying23]
  rw [run_slice_lh W 23 A n cap (by rw [he]; exact Try.underlying23) .i64 .i64 (lo : Int) ((lo : Int) + (m : Int)) (by omega) (by omega) (by omega), he, size_uint8]
  simp only [Result.andThen, sliced, Int.toNat_natCast]
  rw [show ((lo : Int) + (m : Int)).toNat - lo = m by omega]
end Go.Proofs.Yteppocjgodmpdaa
/-
  What the program's calls Right, Write and Msg of layer 12 answer (landed code). No conditions but those typed.
-/
namespace Go.Proofs.Yteppocjgodmpdaa
set_option maxRecDepth 100000
open Go.RowKit
set_option linter.unusedSimpArgs false
set_option linter.unusedVariables false

theorem size_pay' : (Try.prog.info? 25).map (·.size) = some 4 := by kernel_rfl
/-! ### Least, in memory of the call's own -/
def LeastOwn (B : Nat) (L : List UInt8) (w : World) (s : Value) : Prop := ∃ (M : List UInt8) (A : Option Addr) (cap : Nat), s = .slice A M.length cap ∧ M.length ≤ cap ∧ M.length ≤ 8 ∧ Rd vB w A M ∧ L.dropWhile (· == 0) = M.dropWhile (· == 0) ∧ (∀ a, A = some a → B ≤ a.block)
theorem least_new (v : Nat) (hv : v < 18446744073709551616) (w : World) :
    Calls Try.prog 14 #[.int .u64 (v : Int)] w (RetN vB w (leastL v)) := by
  have H8 : Hid (∀ L, L = putL v → L.length = 8) := by rintro L rfl; rfl
  have HL : Hid (∀ L, L = putL v → leastL v = L.dropWhile (· == 0)) := by rintro L rfl; rfl
  go_enter Try.func14, Try.ntmps14
  go_wp2_with (go_at_call 22; refine (put_new v hv _).mono ?_; rintro e w1 ⟨A, cap, rfl, hcap, hrd, hown, hbel⟩)
  obtain ⟨L, e⟩ : ∃ L, L = putL v := ⟨_, rfl⟩
  have h8 := H8.out L e
  have HL' := Lib.hid (HL.out L e)
  rw [← e] at hcap hrd ⊢
  clear HL H8 e
  go_loop [3] (fun s => LeastOwn w.heap.size L w1 s) (fun s => sliceLen s)
  case atStart => exact ⟨L, A, cap, rfl, hcap, by omega, hrd, rfl, hown⟩
  case round =>
    obtain ⟨M, A1, cap1, rfl, hcap1, hm8, hrd1, hdw, hown1⟩ := hrel
    have HD := Lib.hid hdw
    clear hdw h8 hrd hcap hown
    cases M with
    | nil =>
      have HO := Lib.hid hown1
      clear hown1
      go_wp2
      go_ret
      exact ⟨A1, cap1, by rw [HL'.out, HD.out]; rfl, by rw [HL'.out, HD.out]; simp, by rw [HL'.out, HD.out]; exact Rd.nil, HO.out, hbel⟩
    | cons c M =>
      obtain ⟨b, o, rfl, hb, hcell⟩ := hrd1.at (k := 0) (by simp)
      have hc := hcell 0 (by simp)
      simp only [List.getElem_cons_zero, Nat.add_zero, vB] at hc
      have HO : Hid (w.heap.size ≤ b) := hown1 _ rfl
      clear hown1
      by_cases hz : c = 0
      · subst hz
        have hc' : w1.cell? ⟨b, o, none⟩ = some (.int .u8 0) := hc
        have hrd2 : Rd vB w1 (if cap1 = 1 then some ⟨b, o, none⟩ else some ⟨b, o + 1, none⟩) M := by
          have := hrd1.drop 1 cap1 hcap1
          simpa [Addr.add] using this
        have hM : M.length + 1 ≤ cap1 := by simpa using hcap1
        have hM8 : M.length + 1 ≤ 8 := by simpa using hm8
        have HD' : Hid (L.dropWhile (· == 0) = M.dropWhile (· == 0)) := by
          unfold Hid
          rw [HD.out, List.dropWhile_cons, if_pos (by rfl)]
        clear hc hcell hrd1 hcap1 hm8
        go_wp2
        go_round
        case rel => exact ⟨M, _, cap1 - 1, rfl, by omega, by omega, hrd2, HD'.out, fun a ha => by split at ha <;> (injection ha with ha; subst ha; exact HO.out)⟩
        case measure => simp [sliceLen]
      · have hne : ((c.toNat : Int) == 0) = false := by
          have : c.toNat ≠ 0 := fun h => hz (UInt8.toNat_inj.1 h)
          simp
          omega
        have HF : Hid (L.dropWhile (· == 0) = c :: M) := by
          unfold Hid
          rw [HD.out, List.dropWhile_cons, if_neg (by simpa using hz)]
        clear hz hcell
        go_wp2
        go_ret
        exact ⟨_, cap1, by rw [HL'.out, HF.out]; rfl, by rw [HL'.out, HF.out]; exact hcap1, by rw [HL'.out, HF.out]; exact hrd1, (fun a ha => by injection ha with ha; subst ha; exact HO.out), hbel⟩

/-! ### Right -/
theorem rightP_any (t e c : Nat) (tag : List UInt8) (n : Nat) (A : Option Addr) (k : Nat) (w : World) (HN : Hid (tag.length = n)) (hr : Rd vB w A tag) (hk : n ≤ k) (hn : n ≤ 100000) :
    Calls Try.prog 10 #[aggP t e c A n k] w fun e₁ w' => e₁ = .returned (.bool (decide (n = 8))) ∧ Below w.heap.size w w' := by
  obtain ⟨hR0, hB0⟩ := box_pay w 25 (.int .u64 (t : Int)) (.int .u64 (e : Int)) (.int .u64 (c : Int)) (.slice A n k)
  have hd : ((n : Int) == 8) = decide (n = 8) := by
    by_cases h : n = 8
    · subst h; rfl
    · rw [decide_eq_false h]; exact beq_eq_false_iff_ne.2 (by omega)
  rw [← hd]
  clear hd
  unfold aggP
  go_enter Try.func10, Try.ntmps10
  go_upto_region 1 with fail
  generalize (w.alloc (.cells #[.int .u64 (t : Int), .int .u64 (e : Int), .int .u64 (c : Int), .slice A n k] 25)) = W0 at hR0 hB0 ⊢
  have c3 : W0.cell? ⟨w.heap.size, 3, none⟩ = some (.slice A n k) := hR0.cell rfl
  go_wp2_with fail
  go_ret
  exact ⟨rfl, hB0⟩

/-! ### Write -/
theorem writeP_no (t e c : Nat) (tag : List UInt8) (n : Nat) (A : Option Addr) (k : Nat) (w : World) (ht : t < 18446744073709551616) (he : e < 18446744073709551616) (hc : c < 18446744073709551616) (HN : Hid (tag.length = n)) (hr : Rd vB w A tag) (hk : n ≤ k) (hn : n ≤ 100000) (h8 : n ≠ 8) :
    Calls Try.prog 6 #[aggP t e c A n k] w (RetV w [] 1) := by
  obtain ⟨hR0, hB0⟩ := box_pay w 25 (.int .u64 (t : Int)) (.int .u64 (e : Int)) (.int .u64 (c : Int)) (.slice A n k)
  unfold aggP
  go_enter Try.func6, Try.ntmps6
  go_upto_region 1 with fail
  generalize (w.alloc (.cells #[.int .u64 (t : Int), .int .u64 (e : Int), .int .u64 (c : Int), .slice A n k] 25)) = W0 at hR0 hB0 ⊢
  go_wp2_with (refine wpList_load_part rfl 25 (.tmp 1) rfl w.heap.size 0 rfl _ _ hR0 [.int .u64 (t : Int), .int .u64 (e : Int), .int .u64 (c : Int), .slice A n k] (by rfl) _ Try.underlying25 rfl (by exact size_pay') ?_)
  refine (rightP_any t e c tag n A k _ HN (hr.keep hB0) hk hn).mono ?_
  rw [decide_eq_false h8]
  rintro e₁ w1 ⟨rfl, hb⟩
  go_wp2_with fail
  go_ret2
  exact ⟨none, 0, 0, rfl, Lib.hid rfl, Nat.le_refl _, Rd.nil, below_step hB0 hb⟩
def WrV (N : List Nat) (cp : List Value) (w : World) (v iv : Value) (wr : World) : Prop :=
  ∃ i : Nat, i ≤ 3 ∧ iv = .int .i64 (i : Int) ∧ wr.ownsRow (w.heap.size + 1) 5 1 v (preF N i).length ((preF N i).map vB) ∧ Row wr w.heap.size 25 cp ∧ Below w.heap.size w wr
set_option maxRecDepth 100000 in
set_option maxHeartbeats 2000000 in
theorem writeP_ok (t e c : Nat) (tag : List UInt8) (A : Option Addr) (k : Nat) (w : World) (ht : t < 18446744073709551616) (he : e < 18446744073709551616) (hc : c < 18446744073709551616) (HN : Hid (tag.length = 8)) (hr : Rd vB w A tag) (hk : 8 ≤ k) :
    Calls Try.prog 6 #[aggP t e c A 8 k] w (RetV w (writeF t e c tag) 0) := by
  obtain ⟨i0, hi, hz0, hz1, hz2⟩ := info_parts info_u8
  obtain ⟨hR0, hB0⟩ := box_pay w 25 (.int .u64 (t : Int)) (.int .u64 (e : Int)) (.int .u64 (c : Int)) (.slice A 8 k)
  have HALL : Hid (∀ x ∈ [t, e, c], x < 18446744073709551616) := fun x hx => by
    simp at hx
    rcases hx with rfl | rfl | rfl <;> assumption
  unfold aggP
  go_enter Try.func6, Try.ntmps6
  go_upto_region 1 with fail
  generalize (w.alloc (.cells #[.int .u64 (t : Int), .int .u64 (e : Int), .int .u64 (c : Int), .slice A 8 k] 25)) = W0 at hR0 hB0 ⊢
  go_wp2_with (refine wpList_load_part rfl 25 (.tmp 1) rfl w.heap.size 0 rfl _ _ hR0 [.int .u64 (t : Int), .int .u64 (e : Int), .int .u64 (c : Int), .slice A 8 k] (by rfl) _ Try.underlying25 rfl (by exact size_pay') ?_)
  refine (rightP_any t e c tag 8 A k _ HN (hr.keep hB0) hk (by omega)).mono ?_
  rw [show decide ((8 : Nat) = 8) = true from rfl]
  rintro e₁ W1 ⟨rfl, hb⟩
  replace hR0 := hR0.later hb
  replace hB0 := below_step hB0 hb
  clear hb
  go_upto_region 3 with fail
  have hgl0 := hR0.lt
  have hown0 : (W1.alloc (.cells #[.int .u8 87] 5)).ownsRow (w.heap.size + 1) 5 1 (.slice (some ⟨W1.heap.size, 0, none⟩) 1 1) 1 ([(87 : UInt8)].map vB) := own_base (own_lit W1 5 ([(87 : UInt8)].map vB) #[.int .u8 87] rfl (by unfold maxLen; simp)) (by omega)
  have hbn := below_new (Below.refl W1.heap.size W1) (.cells #[.int .u8 87] 5)
  replace hR0 := hR0.later hbn
  replace hB0 := below_step hB0 hbn
  go_upto_region 4 with fail
  generalize W1.alloc (.cells #[.int .u8 87] 5) = W2 at hown0 hR0 hB0 ⊢
  have c0 : W2.cell? ⟨w.heap.size, 0, none⟩ = some (.int .u64 (t : Int)) := hR0.cell rfl
  have c1 : W2.cell? ⟨w.heap.size, 1, none⟩ = some (.int .u64 (e : Int)) := hR0.cell rfl
  have c2 : W2.cell? ⟨w.heap.size, 2, none⟩ = some (.int .u64 (c : Int)) := hR0.cell rfl
  generalize W1.heap.size = g1 at *
  clear hbn hgl0
  go_wp2_with fail
  clear c0 c1 c2
  have HPW : Hid (preF [t, e, c] 3 ++ tag = writeF t e c tag) := pre_write t e c tag
  obtain ⟨N, hN⟩ : ∃ N, N = [t, e, c] := ⟨_, rfl⟩
  have HIX := Lib.hid (index_three N t e c hN)
  have hN3 : N.length = 3 := by rw [hN]; rfl
  rw [← hN] at HALL HPW
  have HPR : Hid (w.heap.size ≤ W2.heap.size) := hB0.size
  have hown0' : W2.ownsRow (w.heap.size + 1) 5 1 (.slice (some ⟨g1, 0, none⟩) 1 1) (preF N 0).length ((preF N 0).map vB) := by
    have : preF N 0 = [87] := by simp [preF]
    rw [this]
    exact hown0
  clear hN hown0
  go_loopw [4, 19] (fun v iv wr => WrV N [.int .u64 (t : Int), .int .u64 (e : Int), .int .u64 (c : Int), .slice A 8 k] w v iv wr) (fun _ i _ => 3 - (intOf i).toNat)
  case atStart => exact ⟨0, by omega, rfl, hown0', hR0, hB0⟩
  case round =>
    clear hown0' hR0 hB0
    obtain ⟨i, hi3, rfl, hown, hRp, hbel⟩ := hrel
    have hpl := pre_length N i
    by_cases h : i < 3
    · have hiN : i < N.length := by omega
      have HPN := Lib.hid (pre_next N i hiN)
      have hx := HALL.out N[i] (List.getElem_mem hiN)
      have hix := HIX.out i hiN
      have i1 : (i : Int) < 3 := by omega
      have i0' : (0 : Int) ≤ (i : Int) := by omega
      generalize N[i] = x at hx hix HPN
      have HX := Lib.hid hx
      generalize preF N i = P at hown hpl HPN
      clear hx
      go_wp2_with fail
      refine (least_new x HX.out _).mono ?_
      rintro ee w1 ⟨A1, c1, rfl, hc1, hr1, hA1, hb1⟩
      have hvb : ∀ b, Value.ownBlock u4 = some b → b < wr.heap.size := fun b hb => (hown.lt b hb).2
      have hll := leastL_length x
      have HNM : Hid (numF x = UInt8.ofNat (leastL x).length :: leastL x) := rfl
      generalize leastL x = L at hc1 hr1 hll HNM ⊢
      obtain ⟨m, hm⟩ : ∃ m, L.length = m := ⟨_, rfl⟩
      have hy : (UInt8.ofNat m).toNat = m := by rw [UInt8.toNat_ofNat']; omega
      have HM := Lib.hid hm
      rw [hm] at hc1 hll HNM ⊢
      generalize UInt8.ofNat m = y at hy HNM
      have hyi : IntKind.u8.wrap (m : Int) = (y.toNat : Int) := by rw [IntKind.wrap_u8', hy]; omega
      have hyj : (m : Int) % 256 = (y.toNat : Int) := by rw [hy]; omega
      have hown1 := ownsRow_later hown hb1
      have hRp1 := hRp.later hb1
      have hB1 := below_step hbel hb1
      have hsz1 := hB1.size
      have hgl := hRp.lt
      have hs11 := hb1.size
      have hry : Rd vB (w1.alloc (.cells #[.int .u8 (y.toNat : Int)] 5)) (some ⟨w1.heap.size, 0, none⟩) [y] := Rd.new w1 [y] _ _ rfl
      have hbn := below_new (Below.refl w1.heap.size w1) (.cells #[.int .u8 (y.toNat : Int)] 5)
      have hbs := hbn.size
      replace hown1 := ownsRow_later hown1 hbn
      replace hRp1 := hRp1.later hbn
      replace hr1 := hr1.keep hbn
      replace hB1 := below_step hB1 hbn
      clear hown hRp hbel hb1 hbn hm hy
      go_upto_region 9 with (at_builtin; refine wpList_append_apart _ rfl (.tmp 24) (.tmp 28) 23 rfl (w.heap.size + 1) 5 i0 (.int .u8 0) 1 Try.underlying23 hi hz0 hz1 hz2 rfl _ _ _ rfl hown1 _ ([y]) 1 rfl hry vB_one (by show P.length + 1 ≤ maxLen; unfold maxLen; omega) (by show (P.length + 1) * 1 ≤ _; omega) (by omega) ?_; intro v3 w3 hown3 hgrow3 hat3)
      have hB3 : Below w.heap.size w w3 := hB1.grown hgrow3 (by omega) (fun k hk => by have := (hown1.lt k hk).1; omega)
      have hRp3 := hRp1.grown hgrow3 (fun e => by have := (hown1.lt _ e).1; omega)
      have hr3 := hr1.grown hgrow3 (fun a ha e => by have h1 := hA1 a ha; have h2 := hvb _ e; omega)
      clear hown1 hgrow3 hRp1 hr1 hB1
      have e1 : P.length + [y].length = (P ++ [y]).length := by rw [List.length_append]
      have e2 : P.map vB ++ [y].map vB = (P ++ [y]).map vB := by rw [List.map_append]
      rw [e1, e2] at hown3
      have hP1 : (P ++ [y]).length ≤ 100 := by rw [List.length_append]; simp; omega
      have HPP : Hid (preF N (i + 1) = (P ++ [y]) ++ L) := by unfold Hid; rw [HPN.out, HNM.out]; simp
      generalize P ++ [y] = P1 at hown3 hP1 HPP
      clear e1 e2
      have hgl3 := hRp3.lt
      go_wp2_with (at_builtin; refine wpList_append_apart _ rfl (.tmp 30) (.tmp 31) 23 rfl (w.heap.size + 1) 5 i0 (.int .u8 0) 1 Try.underlying23 hi hz0 hz1 hz2 rfl _ _ _ rfl hown3 A1 L c1 (by rw [HM.out]; rfl) hr3 vB_one (by rw [HM.out]; unfold maxLen; omega) (by rw [HM.out]; omega) (by omega) ?_; intro v4 w4 hown4 hgrow4 hat4)
      have hB4 : Below w.heap.size w w4 := hB3.grown hgrow4 hB3.size (fun k hk => by have := (hown3.lt k hk).1; omega)
      have HREL : Hid (WrV N [.int .u64 (t : Int), .int .u64 (e : Int), .int .u64 (c : Int), .slice A 8 k] w v4 (.int .i64 ((i : Int) + 1)) w4) :=
        ⟨i + 1, by omega, by go_num, by rw [HPP.out, List.length_append, List.map_append]; exact hown4, hRp3.grown hgrow4 (fun e => by have := (hown3.lt _ e).1; omega), hB4⟩
      clear hown4 hgrow4 hown3 hB4 hB3 hRp3
      go_wp2_with fail
      go_roundw
      case rel => exact HREL.out
      case measure => simp [intOf] <;> omega
    · have ei : i = 3 := by omega
      subst ei
      have hcell : wr.cell? ⟨w.heap.size, 3, none⟩ = some (.slice A 8 k) := hRp.cell rfl
      have hrt := hr.keep hbel
      have i1 : ¬ (3 : Int) < 3 := by omega
      have hs := hbel.size
      have hgl := hRp.lt
      generalize preF N 3 = P at hown hpl HPW
      go_wp2_with (at_builtin; refine wpList_append_apart _ rfl (.tmp 34) (.tmp 36) 23 rfl (w.heap.size + 1) 5 i0 (.int .u8 0) 1 Try.underlying23 hi hz0 hz1 hz2 rfl _ _ _ rfl hown A tag k (by rw [HN.out]; rfl) hrt vB_one (by rw [HN.out]; unfold maxLen; omega) (by rw [HN.out]; omega) (by omega) ?_; intro v4 w4 hown4 hgrow4 hat4)
      have hB4 : Below w.heap.size w w4 := hbel.grown hgrow4 hbel.size (fun k hk => by have := (hown.lt k hk).1; omega)
      rw [← List.map_append, ← List.length_append, HPW.out] at hown4
      obtain ⟨A4, c4, rfl, hc4, hr4⟩ := own_slice hown4
      clear hown4 hgrow4
      go_wp2_with fail
      go_ret2
      exact ⟨A4, _, c4, rfl, Lib.hid rfl, hc4, hr4, hB4⟩

/-! ### Msg -/
def mreF (N : List Nat) (i : Nat) : List UInt8 := 67 :: (N.take i).flatMap putL
theorem mre_next (N : List Nat) (i : Nat) (h : i < N.length) : mreF N (i + 1) = mreF N i ++ putL N[i] := by
  unfold mreF
  rw [List.take_succ_eq_append_getElem h, List.flatMap_append, List.cons_append]
  simp
theorem mre_length (N : List Nat) (i : Nat) : (mreF N i).length ≤ 1 + 8 * i := by
  induction i with
  | zero => simp [mreF]
  | succ i ih =>
    rcases Nat.lt_or_ge i N.length with h | h
    · rw [mre_next N i h, List.length_append, putL_len]
      omega
    · have e : mreF N (i + 1) = mreF N i := by unfold mreF; rw [List.take_of_length_le (by omega), List.take_of_length_le h]
      rw [e]
      omega
def MsV (N : List Nat) (w : World) (v iv : Value) (wr : World) : Prop :=
  ∃ i : Nat, i ≤ 3 ∧ iv = .int .i64 (i : Int) ∧ wr.ownsRow w.heap.size 5 1 v (mreF N i).length ((mreF N i).map vB) ∧ Below w.heap.size w wr
set_option maxRecDepth 100000 in
set_option maxHeartbeats 2000000 in
theorem msgP_any (t e c : Nat) (w : World) (ht : t < 18446744073709551616) (he : e < 18446744073709551616) (hc : c < 18446744073709551616) :
    Calls Try.prog 12 #[.int .u64 (t : Int), .int .u64 (e : Int), .int .u64 (c : Int)] w (RetZ w (msgF t e c)) := by
  obtain ⟨i0, hi, hz0, hz1, hz2⟩ := info_parts info_u8
  have HALL : Hid (∀ x ∈ [t, e, c], x < 18446744073709551616) := fun x hx => by
    simp at hx
    rcases hx with rfl | rfl | rfl <;> assumption
  go_enter Try.func12, Try.ntmps12
  go_upto_region 2 with fail
  have hown0 : (w.alloc (.cells #[.int .u8 67] 5)).ownsRow w.heap.size 5 1 (.slice (some ⟨w.heap.size, 0, none⟩) 1 1) 1 ([(67 : UInt8)].map vB) := own_lit w 5 ([(67 : UInt8)].map vB) #[.int .u8 67] rfl (by unfold maxLen; simp)
  have hB0 := below_new (Below.refl w.heap.size w) (.cells #[.int .u8 67] 5)
  generalize w.alloc (.cells #[.int .u8 67] 5) = W0 at hown0 hB0 ⊢
  go_wp2_with fail
  have HPW : Hid (mreF [t, e, c] 3 = msgF t e c) := by unfold Hid mreF msgF; simp
  obtain ⟨N, hN⟩ : ∃ N, N = [t, e, c] := ⟨_, rfl⟩
  have HIX := Lib.hid (index_three N t e c hN)
  have hN3 : N.length = 3 := by rw [hN]; rfl
  rw [← hN] at HALL HPW
  have hown0' : W0.ownsRow w.heap.size 5 1 (.slice (some ⟨w.heap.size, 0, none⟩) 1 1) (mreF N 0).length ((mreF N 0).map vB) := by
    have : mreF N 0 = [67] := by simp [mreF]
    rw [this]
    exact hown0
  clear hN hown0
  go_loopw [7, 15] (fun v iv wr => MsV N w v iv wr) (fun _ i _ => 3 - (intOf i).toNat)
  case atStart => exact ⟨0, by omega, rfl, hown0', hB0⟩
  case round =>
    clear hown0' hB0
    obtain ⟨i, hi3, rfl, hown, hbel⟩ := hrel
    have hpl := mre_length N i
    by_cases h : i < 3
    · have hiN : i < N.length := by omega
      have HPN := Lib.hid (mre_next N i hiN)
      have hx := HALL.out N[i] (List.getElem_mem hiN)
      have hix := HIX.out i hiN
      have i1 : (i : Int) < 3 := by omega
      have i0' : (0 : Int) ≤ (i : Int) := by omega
      generalize N[i] = x at hx hix HPN
      have HX := Lib.hid hx
      generalize mreF N i = P at hown hpl HPN
      clear hx
      go_wp2_with fail
      refine (put_at x HX.out _).mono ?_
      rintro ee w1 ⟨A1, c1, rfl, hc1, hr1, hb1⟩
      have hll := putL_len x
      generalize putL x = L at hr1 hll HPN
      have HL := Lib.hid hll
      have hown1 := ownsRow_later hown hb1
      have hB1 := below_step hbel hb1
      have hsz1 := hB1.size
      clear hown hbel hb1 hll
      go_wp2_with (at_builtin; refine wpList_append_rd _ rfl (.tmp 18) (.tmp 20) 23 rfl w.heap.size 5 i0 (.int .u8 0) 1 Try.underlying23 hi hz0 hz1 hz2 rfl _ _ _ rfl hown1 A1 L c1 (by rw [HL.out]; rfl) hr1 vB_one (by rw [HL.out]; unfold maxLen; omega) (by rw [HL.out]; omega) (by omega) ?_; intro v4 w4 hown4 hgrow4)
      have hB4 : Below w.heap.size w w4 := hB1.grown hgrow4 hB1.size (fun k hk => by have := (hown1.lt k hk).1; omega)
      have HREL : Hid (MsV N w v4 (.int .i64 ((i : Int) + 1)) w4) :=
        ⟨i + 1, by omega, by go_num, by rw [HPN.out, List.length_append, List.map_append]; exact hown4, hB4⟩
      clear hown4 hgrow4 hown1 hB4 hB1
      go_wp2_with fail
      go_roundw
      case rel => exact HREL.out
      case measure => simp [intOf] <;> omega
    · have ei : i = 3 := by omega
      subst ei
      have i1 : ¬ (3 : Int) < 3 := by omega
      rw [HPW.out] at hown hpl
      clear HPW
      obtain ⟨A4, c4, rfl, hc4, hr4⟩ := own_slice hown
      obtain ⟨n4, hn4⟩ : ∃ n4, (msgF t e c).length = n4 := ⟨_, rfl⟩
      rw [hn4] at hc4 hpl ⊢
      have HN4 := Lib.hid hn4
      clear hown hn4
      go_wp2_with fail
      go_ret
      exact ⟨A4, n4, c4, rfl, HN4, hc4, hr4, hbel⟩
end Go.Proofs.Yteppocjgodmpdaa
/-
  What the reference's call Read of layer 12 answers. No conditions but those typed.
-/
namespace Go.Proofs.Yteppocjgodmpdaa
set_option maxRecDepth 100000
open Go.RowKit
set_option linter.unusedSimpArgs false
set_option linter.unusedVariables false

theorem info_u64 : (Try.prog.info? 22).map (fun i => (i.zero, i.size, i.bytes)) = some (some (.int .u64 0), 1, 8) := by kernel_rfl
theorem size_pay : (Try.prog.info? 25).map (·.size) = some 4 := by kernel_rfl
abbrev ResF := Int × Nat × Nat × Nat × List UInt8
def contF : Nat → List Nat → List UInt8 → ResF
  | 0, v, r => readT (v.getD 0 0) (v.getD 1 0) (v.getD 2 0) r
  | k + 1, v, r => if (readN r).1 = 0 then contF k (v ++ [(readN r).2.1]) (readN r).2.2 else ((readN r).1, 0, 0, 0, [])
theorem cont_succ (k : Nat) (v : List Nat) (r : List UInt8) : contF (k + 1) v r = if (readN r).1 = 0 then contF k (v ++ [(readN r).2.1]) (readN r).2.2 else ((readN r).1, 0, 0, 0, []) := rfl
theorem value_at (l : List UInt8) (m : Nat) (A : Option Addr) (cap : Nat) (w : World) (HL : Hid (l.length = m)) (hr : Rd vB w A l) (hm : m ≤ 8) :
    Calls Try.prog 21 #[.slice A m cap] w fun e w' => e = .returned (.int .u64 (valN l : Int)) ∧ w = w' := by
  have e := HL.out
  subst e
  have hv := valN_lt8 l hm
  rw [show (valN l : Int) = ((valN l % 18446744073709551616 : Nat) : Int) by rw [Nat.mod_eq_of_lt hv]]
  exact value_any l A cap w hr (by omega)
theorem cont_read (r : List UInt8) : contF 3 [] r = readB r := by
  simp only [readB, readE, readC, contF]
  rfl
/-- A call that hands back a payload and an error. -/
def RetPay (w : World) (F : ResF) (e : Ending) (w' : World) : Prop := ∃ A n k, e = .returned (.tuple #[aggP F.2.1 F.2.2.1 F.2.2.2.1 A n k, .int .i64 F.1]) ∧ Hid (F.2.2.2.2.length = n) ∧ n ≤ k ∧ Rd vB w' A F.2.2.2.2 ∧ Below w.heap.size w w'
def threeP (g o : Nat) (a b c : Value) (W : World) : Prop := W.cell? ⟨g, o, none⟩ = some a ∧ (W.cell? ⟨g, o + 1, none⟩ = some b ∧ W.cell? ⟨g, o + 2, none⟩ = some c)
def RdR (b : List UInt8) (F : ResF) (w : World) (at' v iv : Value) (wr : World) : Prop :=
  ∃ (i p : Nat) (N : List Nat), i ≤ 3 ∧ N.length = i ∧ p ≤ b.length ∧ iv = .int .i64 (i : Int) ∧ at' = .int .i64 (p : Int) ∧ Hid (contF (3 - i) N (b.drop p) = F) ∧ wr.ownsRow (w.heap.size + 1) 22 1 v i (N.map uV) ∧ Row wr w.heap.size 25 [.int .u64 0, .int .u64 0, .int .u64 0, .slice none 0 0] ∧ Below w.heap.size w wr

set_option maxRecDepth 100000 in
set_option maxHeartbeats 4000000 in
theorem refreadF_any (b : List UInt8) (n : Nat) (A : Option Addr) (c : Nat) (w : World) (HN : Hid (b.length = n)) (hr : Rd vB w A b) (hc : n ≤ c) (hn : n ≤ 100000) :
    Calls Try.prog 9 #[.slice A n c] w (RetPay w (readF b)) := by
  obtain ⟨i0, hi, hz0, hz1, hz2⟩ := info_parts info_u64
  obtain ⟨i8, hi8, hy0, hy1, hy2⟩ := info_parts info_u8
  obtain ⟨F, hF0⟩ : ∃ F, readF b = F := ⟨_, rfl⟩
  rw [hF0]
  obtain ⟨hR0, hB0⟩ := box_pay w 25 (.int .u64 0) (.int .u64 0) (.int .u64 0) (.slice none 0 0)
  have e1 := HN.out
  subst e1
  go_enter Try.func9, Try.ntmps9
  go_upto_region 1 with fail
  generalize (w.alloc (.cells #[.int .u64 0, .int .u64 0, .int .u64 0, .slice none 0 0] 25)) = W0 at hR0 hB0 ⊢
  by_cases h0 : b.length = 0
  · have hb0 : b = [] := List.eq_nil_of_length_eq_zero h0
    have l0 : ((b.length : Int) == 0) = true := beq_iff_eq.2 (by omega)
    have hF : F = (2, 0, 0, 0, []) := by rw [← hF0, hb0]; rfl
    subst hF
    go_wp2_with (refine wpList_store_row rfl 25 (.tmp 2) (.tmp 11) rfl w.heap.size rfl [.int .u64 0, .int .u64 0, .int .u64 0, .slice none 0 0] rfl _ _ hR0 (by exact size_pay) rfl (one_four _ _ _ _ rfl rfl rfl rfl) ?_)
    refine bodyPost_ret (results_row_tmp (p := 2) (u := 3) (ty := 25) (by rfl) _ _ w.heap.size 25 _ _ (by rfl) (by exact hR0.setRow _) Try.underlying25 (by rfl) (by exact size_pay)) (by rfl) ?_
    exact ⟨none, 0, 0, rfl, Lib.hid rfl, Nat.le_refl _, Rd.nil, below_setRow hB0 (Nat.le_refl _) _⟩
  · obtain ⟨x, r, hb⟩ : ∃ x r, b = x :: r := by
      cases b with
      | nil => exact absurd rfl h0
      | cons x r => exact ⟨x, r, rfl⟩
    have hbl : 0 < b.length := by omega
    obtain ⟨g, o, rfl, hg, hcell⟩ := hr.at hbl
    have hx0 : W0.cell? ⟨g, o, none⟩ = some (.int .u8 (x.toNat : Int)) := by
      have := hcell 0 hbl
      rw [show b[0] = x by simp [hb]] at this
      exact (hB0.cell (p := ⟨g, o, none⟩) hg).trans this
    have l0 : ((b.length : Int) == 0) = false := beq_eq_false_iff_ne.2 (by omega)
    have l1 : (0 : Int) < (b.length : Int) := by omega
    have hrF : F = if x ≠ 87 then (3, 0, 0, 0, []) else readB r := by rw [← hF0, hb, readF_cons]
    have hdr : b.drop 1 = r := by rw [hb]; rfl
    have hbne : b ≠ [] := by rw [hb]; simp
    clear hb hF0
    by_cases h87 : x = 87
    · subst h87
      have hx1 : W0.cell? ⟨g, o, none⟩ = some (.int .u8 87) := hx0
      have HST : Hid (contF (3 - 0) [] (b.drop 1) = F) := by unfold Hid; rw [hdr, cont_read, hrF, if_neg (by simp)]
      have HCL := Lib.hid hcell
      clear hx0 hrF hdr hcell
      go_wp2_with fail
      go_loopw [4, 5, 6] (fun at' v iv wr => RdR b F w at' v iv wr) (fun _ _ i _ => 3 - (intOf i).toNat)
      case atStart => exact ⟨0, 1, [], by omega, rfl, by omega, rfl, rfl, HST, World.ownsRow_nil _ _ _ _, hR0, hB0⟩
      case round =>
        clear hR0 hB0 hx1
        obtain ⟨i, p, N, hi3, hNl, hp, rfl, rfl, HF, hown, hRp, hbel⟩ := hrel
        have hgp := hRp.lt
        by_cases h : i < 3
        · have hFF := HF.out
          rw [show 3 - i = (2 - i) + 1 by omega, cont_succ] at hFF
          have i1 : (i : Int) < 3 := by omega
          by_cases hpl : p < b.length
          · obtain ⟨y, hy⟩ : ∃ y, b[p] = y := ⟨_, rfl⟩
            have hdp : b.drop p = y :: b.drop (p + 1) := by rw [← hy]; exact List.drop_eq_getElem_cons hpl
            have hSl : (b.drop (p + 1)).length = b.length - (p + 1) := List.length_drop
            have hcy : wr.cell? ⟨g, o + p, none⟩ = some (.int .u8 (y.toNat : Int)) := by rw [← hy]; exact (hbel.cell (p := ⟨g, o + p, none⟩) hg).trans (HCL.out p hpl)
            have hdd : ∀ q, (b.drop (p + 1)).drop q = b.drop (p + 1 + q) := fun q => List.drop_drop
            have hhd : ∀ z, b[p + 1]? = some z → (b.drop (p + 1)).head? = some z := fun z hz => by rw [List.head?_drop, hz]
            rw [hdp, readN_cons] at hFF
            have hmid : ∀ m', Rd vB wr (if c = p + 1 then some ⟨g, o, none⟩ else (some (⟨g, o, none⟩ : Addr)).map (·.add ((p + 1) * 1))) ((b.drop (p + 1)).take m') := fun m' => by
              have := (hr.keep hbel).mid (p + 1) (p + 1 + m') c hc
              rwa [show p + 1 + m' - (p + 1) = m' by omega] at this
            have hsl := fun m' h W => cut_mid (some ⟨g, o, none⟩) b.length c (p + 1) m' h W
            obtain ⟨q, hq⟩ : ∃ q, q = p + 1 := ⟨_, rfl⟩
            rw [← hq] at hFF hSl hdd hhd hmid hsl
            generalize b.drop q = S at hFF hSl hdd hhd hmid
            generalize (if c = q then some (⟨g, o, none⟩ : Addr) else (some (⟨g, o, none⟩ : Addr)).map (·.add (q * 1))) = A' at hmid hsl
            have hyl := y.toNat_lt
            generalize y.toNat = m at hFF hcy hyl
            have p1 : (p : Int) < (b.length : Int) := by omega
            have p0 : (0 : Int) ≤ (p : Int) := by omega
            have mw : True → IntKind.i64.wrap (m : Int) = (m : Int) := fun _ => by rw [IntKind.wrap_i64]; omega
            clear hy hdp
            by_cases h8 : 8 < m
            · have m8 : (8 : Int) < (m : Int) := by omega
              rw [if_pos h8] at hFF
              have hF : F = (4, 0, 0, 0, []) := by rw [← hFF]; rfl
              subst hF
              go_wp2_with (refine wpList_store_row rfl 25 (.tmp 2) (.tmp 35) rfl w.heap.size rfl [.int .u64 0, .int .u64 0, .int .u64 0, .slice none 0 0] rfl _ _ hRp (by exact size_pay) rfl (one_four _ _ _ _ rfl rfl rfl rfl) ?_)
              refine bodyPost_ret (results_row_tmp (p := 2) (u := 3) (ty := 25) (by rfl) _ _ w.heap.size 25 _ _ (by rfl) (by exact hRp.setRow _) Try.underlying25 (by rfl) (by exact size_pay)) (by rfl) ?_
              exact ⟨none, 0, 0, rfl, Lib.hid rfl, Nat.le_refl _, Rd.nil, below_setRow hbel (Nat.le_refl _) _⟩
            · rw [if_neg h8] at hFF
              have m8 : ¬ (8 : Int) < (m : Int) := by omega
              by_cases hs : S.length < m
              · rw [if_pos hs] at hFF
                have ms : (b.length : Int) - ((p : Int) + 1) < (m : Int) := by omega
                have hF : F = (2, 0, 0, 0, []) := by rw [← hFF]; rfl
                subst hF
                go_wp2_with (refine wpList_store_row rfl 25 (.tmp 2) (.tmp 42) rfl w.heap.size rfl [.int .u64 0, .int .u64 0, .int .u64 0, .slice none 0 0] rfl _ _ hRp (by exact size_pay) rfl (one_four _ _ _ _ rfl rfl rfl rfl) ?_)
                refine bodyPost_ret (results_row_tmp (p := 2) (u := 3) (ty := 25) (by rfl) _ _ w.heap.size 25 _ _ (by rfl) (by exact hRp.setRow _) Try.underlying25 (by rfl) (by exact size_pay)) (by rfl) ?_
                exact ⟨none, 0, 0, rfl, Lib.hid rfl, Nat.le_refl _, Rd.nil, below_setRow hbel (Nat.le_refl _) _⟩
              · rw [if_neg hs] at hFF
                have ms : ¬ (b.length : Int) - ((p : Int) + 1) < (m : Int) := by omega
                have hpq : (p : Int) + 1 = (q : Int) := by omega
                have q0 : (0 : Int) ≤ (q : Int) := by omega
                by_cases hm0 : m = 0
                · have hz3 : ¬ (0 < m ∧ S.head? = some (0 : UInt8)) := fun h => by omega
                  rw [if_neg hz3] at hFF
                  have m0 : ¬ (0 : Int) < (m : Int) := by omega
                  have m00 : decide ((0 : Int) < (m : Int)) = false := decide_eq_false m0
                  have HM0 := Lib.hid hm0
                  clear hm0
                  rw [if_pos rfl] at hFF
                  have hLl : (S.take m).length = m := by rw [List.length_take]; omega
                  have HNX0 : Hid (contF (3 - (i + 1)) (N ++ [valN (S.take m)]) (b.drop (q + m)) = F) := by unfold Hid; rw [show 3 - (i + 1) = 2 - i by omega, ← hdd m]; exact hFF
                  obtain ⟨V, hV⟩ : ∃ V, valN (S.take m) = V := ⟨_, rfl⟩
                  have hV64 : V < 18446744073709551616 := by rw [← hV]; exact valN_lt8 _ (by omega)
                  have HNX : Hid (contF (3 - (i + 1)) (N ++ [V]) (b.drop (q + m)) = F) := by rw [← hV]; exact HNX0
                  have hrd := hmid m
                  generalize S.take m = L at hLl hV hrd
                  have HLL := Lib.hid hLl
                  have HV := Lib.hid hV
                  have s1 : (q : Int) + (m : Int) ≤ (c : Int) := by omega
                  have s2 : q + m ≤ c := by omega
                  have hsx := hsl m s2
                  have hsz := hbel.size
                  clear hFF HNX0 hV hLl hmid hdd hhd hs hsl
                  clear hq hz3
                  go_wp2_with fail
                  refine (value_at L m A' (c - q) _ HLL hrd (by omega)).mono ?_
                  rintro ee w7 ⟨rfl, rfl⟩
                  rw [HV.out]
                  go_wp2_with (at_builtin; refine wpList_append_own _ rfl _ _ 42 rfl (w.heap.size + 1) 22 i0 (.int .u64 0) 1 8 Try.underlying42 hi hz0 hz1 hz2 rfl (by decide) _ _ _ rfl (hown.alloc _) ⟨wr.heap.size, 0, none⟩ 1 1 [.int .u64 (V : Int)] rfl rfl (cell_one_new _ _ _) (by intro u hu; simp at hu; subst hu; rfl) (by unfold maxLen; omega) (by omega) (by simp; omega) ?_; intro v' w8 hown' hgrow' _)
                  have hB8 : Below w.heap.size w w8 := (hbel.alloc hbel.size _).grown hgrow' (by simp; omega) (fun k hk => by have := (hown.lt k hk).1; omega)
                  have hR8 : Row w8 w.heap.size 25 [.int .u64 0, .int .u64 0, .int .u64 0, .slice none 0 0] := (hRp.alloc (.cells #[.int .u64 (V : Int)] 22)).grown hgrow' (fun e => by have := (hown.lt _ e).1; omega)
                  have HREL : Hid (RdR b F w (.int .i64 ((q : Int) + (m : Int))) v' (.int .i64 ((i : Int) + 1)) w8) := ⟨i + 1, q + m, N ++ [V], by omega, by rw [List.length_append, hNl]; rfl, by omega, by go_num, by go_num, HNX, by rw [List.map_append]; exact hown', hR8, hB8⟩
                  clear hown' hgrow' hown hbel hB8 hRp hR8
                  go_wp2_with fail
                  go_roundw
                  case rel => exact HREL.out
                  case measure => simp [intOf] <;> omega
                · have hq1 : q < b.length := by omega
                  obtain ⟨z, hz⟩ : ∃ z, b[q] = z := ⟨_, rfl⟩
                  have hcz : wr.cell? ⟨g, o + q, none⟩ = some (.int .u8 (z.toNat : Int)) := by rw [← hz]; exact (hbel.cell (p := ⟨g, o + q, none⟩) hg).trans (HCL.out q hq1)
                  have m0 : (0 : Int) < (m : Int) := by omega
                  have m00 : decide ((0 : Int) < (m : Int)) = true := decide_eq_true m0
                  have q1 : (q : Int) < (b.length : Int) := by omega
                  rw [hhd z (by rw [List.getElem?_eq_getElem hq1, hz])] at hFF
                  by_cases hz0' : z = 0
                  · have hz2 : 0 < m ∧ some z = some (0 : UInt8) := ⟨by omega, by rw [hz0']⟩
                    rw [if_pos hz2] at hFF
                    have hcz0 : wr.cell? ⟨g, o + q, none⟩ = some (.int .u8 0) := by rw [hcz, hz0']; rfl
                    clear hcz hq
                    have hF : F = (3, 0, 0, 0, []) := by rw [← hFF]; rfl
                    subst hF
                    go_wp2_with (refine wpList_store_row rfl 25 (.tmp 2) (.tmp 52) rfl w.heap.size rfl [.int .u64 0, .int .u64 0, .int .u64 0, .slice none 0 0] rfl _ _ hRp (by exact size_pay) rfl (one_four _ _ _ _ rfl rfl rfl rfl) ?_)
                    refine bodyPost_ret (results_row_tmp (p := 2) (u := 3) (ty := 25) (by rfl) _ _ w.heap.size 25 _ _ (by rfl) (by exact hRp.setRow _) Try.underlying25 (by rfl) (by exact size_pay)) (by rfl) ?_
                    exact ⟨none, 0, 0, rfl, Lib.hid rfl, Nat.le_refl _, Rd.nil, below_setRow hbel (Nat.le_refl _) _⟩
                  · have hz3 : ¬ (0 < m ∧ some z = some (0 : UInt8)) := fun h => hz0' (Option.some.inj h.2)
                    rw [if_neg hz3] at hFF
                    have t0 : z.toNat ≠ 0 := fun e => hz0' (UInt8.toNat_inj.1 e)
                    generalize z.toNat = t at hcz t0
                    have t1 : ((t : Int) == 0) = false := beq_eq_false_iff_ne.2 (by omega)
                    rw [if_pos rfl] at hFF
                    have hLl : (S.take m).length = m := by rw [List.length_take]; omega
                    have HNX0 : Hid (contF (3 - (i + 1)) (N ++ [valN (S.take m)]) (b.drop (q + m)) = F) := by unfold Hid; rw [show 3 - (i + 1) = 2 - i by omega, ← hdd m]; exact hFF
                    obtain ⟨V, hV⟩ : ∃ V, valN (S.take m) = V := ⟨_, rfl⟩
                    have hV64 : V < 18446744073709551616 := by rw [← hV]; exact valN_lt8 _ (by omega)
                    have HNX : Hid (contF (3 - (i + 1)) (N ++ [V]) (b.drop (q + m)) = F) := by rw [← hV]; exact HNX0
                    have hrd := hmid m
                    generalize S.take m = L at hLl hV hrd
                    have HLL := Lib.hid hLl
                    have HV := Lib.hid hV
                    have s1 : (q : Int) + (m : Int) ≤ (c : Int) := by omega
                    have s2 : q + m ≤ c := by omega
                    have hsx := hsl m s2
                    have hsz := hbel.size
                    clear hFF HNX0 hV hLl hmid hdd hhd hs hsl
                    clear hq hz3 hz
                    go_wp2_with fail
                    refine (value_at L m A' (c - q) _ HLL hrd (by omega)).mono ?_
                    rintro ee w7 ⟨rfl, rfl⟩
                    rw [HV.out]
                    go_wp2_with (at_builtin; refine wpList_append_own _ rfl _ _ 42 rfl (w.heap.size + 1) 22 i0 (.int .u64 0) 1 8 Try.underlying42 hi hz0 hz1 hz2 rfl (by decide) _ _ _ rfl (hown.alloc _) ⟨wr.heap.size, 0, none⟩ 1 1 [.int .u64 (V : Int)] rfl rfl (cell_one_new _ _ _) (by intro u hu; simp at hu; subst hu; rfl) (by unfold maxLen; omega) (by omega) (by simp; omega) ?_; intro v' w8 hown' hgrow' _)
                    have hB8 : Below w.heap.size w w8 := (hbel.alloc hbel.size _).grown hgrow' (by simp; omega) (fun k hk => by have := (hown.lt k hk).1; omega)
                    have hR8 : Row w8 w.heap.size 25 [.int .u64 0, .int .u64 0, .int .u64 0, .slice none 0 0] := (hRp.alloc (.cells #[.int .u64 (V : Int)] 22)).grown hgrow' (fun e => by have := (hown.lt _ e).1; omega)
                    have HREL : Hid (RdR b F w (.int .i64 ((q : Int) + (m : Int))) v' (.int .i64 ((i : Int) + 1)) w8) := ⟨i + 1, q + m, N ++ [V], by omega, by rw [List.length_append, hNl]; rfl, by omega, by go_num, by go_num, HNX, by rw [List.map_append]; exact hown', hR8, hB8⟩
                    clear hown' hgrow' hown hbel hB8 hRp hR8
                    go_wp2_with fail
                    go_roundw
                    case rel => exact HREL.out
                    case measure => simp [intOf] <;> omega
          · have hdp : b.drop p = [] := List.drop_of_length_le (by omega)
            rw [hdp] at hFF
            have p1 : ¬ (p : Int) < (b.length : Int) := by omega
            have p2 : (b.length : Int) ≤ (p : Int) := by omega
            have hF : F = (2, 0, 0, 0, []) := by rw [← hFF]; rfl
            subst hF
            go_wp2_with (refine wpList_store_row rfl 25 (.tmp 2) (.tmp 25) rfl w.heap.size rfl [.int .u64 0, .int .u64 0, .int .u64 0, .slice none 0 0] rfl _ _ hRp (by exact size_pay) rfl (one_four _ _ _ _ rfl rfl rfl rfl) ?_)
            refine bodyPost_ret (results_row_tmp (p := 2) (u := 3) (ty := 25) (by rfl) _ _ w.heap.size 25 _ _ (by rfl) (by exact hRp.setRow _) Try.underlying25 (by rfl) (by exact size_pay)) (by rfl) ?_
            exact ⟨none, 0, 0, rfl, Lib.hid rfl, Nat.le_refl _, Rd.nil, below_setRow hbel (Nat.le_refl _) _⟩
        · have ei : i = 3 := by omega
          subst ei
          have i1 : ¬ (3 : Int) < 3 := by omega
          have hSl : (b.drop p).length = b.length - p := List.length_drop
          have hFF : readT (N.getD 0 0) (N.getD 1 0) (N.getD 2 0) (b.drop p) = F := HF.out
          unfold readT at hFF
          have p0 : (0 : Int) ≤ (p : Int) := by omega
          have pl : (p : Int) ≤ (b.length : Int) := by omega
          by_cases h8 : b.length - p < 8
          · rw [if_pos (by omega)] at hFF
            have m8 : (b.length : Int) - (p : Int) < 8 := by omega
            have hF : F = (2, 0, 0, 0, []) := hFF.symm
            subst hF
            go_wp2_with (refine wpList_store_row rfl 25 (.tmp 2) (.tmp 71) rfl w.heap.size rfl [.int .u64 0, .int .u64 0, .int .u64 0, .slice none 0 0] rfl _ _ hRp (by exact size_pay) rfl (one_four _ _ _ _ rfl rfl rfl rfl) ?_)
            refine bodyPost_ret (results_row_tmp (p := 2) (u := 3) (ty := 25) (by rfl) _ _ w.heap.size 25 _ _ (by rfl) (by exact hRp.setRow _) Try.underlying25 (by rfl) (by exact size_pay)) (by rfl) ?_
            exact ⟨none, 0, 0, rfl, Lib.hid rfl, Nat.le_refl _, Rd.nil, below_setRow hbel (Nat.le_refl _) _⟩
          · rw [if_neg (by omega)] at hFF
            have m8 : ¬ (b.length : Int) - (p : Int) < 8 := by omega
            by_cases h9 : 8 < b.length - p
            · rw [if_pos (by omega)] at hFF
              have m9 : (8 : Int) < (b.length : Int) - (p : Int) := by omega
              have hF : F = (4, 0, 0, 0, []) := hFF.symm
              subst hF
              go_wp2_with (refine wpList_store_row rfl 25 (.tmp 2) (.tmp 77) rfl w.heap.size rfl [.int .u64 0, .int .u64 0, .int .u64 0, .slice none 0 0] rfl _ _ hRp (by exact size_pay) rfl (one_four _ _ _ _ rfl rfl rfl rfl) ?_)
              refine bodyPost_ret (results_row_tmp (p := 2) (u := 3) (ty := 25) (by rfl) _ _ w.heap.size 25 _ _ (by rfl) (by exact hRp.setRow _) Try.underlying25 (by rfl) (by exact size_pay)) (by rfl) ?_
              exact ⟨none, 0, 0, rfl, Lib.hid rfl, Nat.le_refl _, Rd.nil, below_setRow hbel (Nat.le_refl _) _⟩
            · rw [if_neg (by omega)] at hFF
              have m9 : ¬ (8 : Int) < (b.length : Int) - (p : Int) := by omega
              obtain ⟨t, e, d, rfl⟩ : ∃ t e d, N = [t, e, d] := by
                match N, hNl with
                | [t, e, d], _ => exact ⟨t, e, d, rfl⟩
              have hFF' : (0, t, e, d, b.drop p) = F := hFF
              have hol := hown.lt
              obtain ⟨Al, cl, rfl, hcl, hrl⟩ := own_slice (l := [t, e, d]) hown
              obtain ⟨gl, ol, rfl, hgl, hcl'⟩ := hrl.at (show 0 < [t, e, d].length by simp)
              have hglb := (hol gl rfl).1
              have k0 : wr.cell? ⟨gl, ol, none⟩ = some (.int .u64 (t : Int)) := hcl' 0 (by simp)
              have k1 : wr.cell? ⟨gl, ol + 1, none⟩ = some (.int .u64 (e : Int)) := hcl' 1 (by simp)
              have k2 : wr.cell? ⟨gl, ol + 2, none⟩ = some (.int .u64 (d : Int)) := hcl' 2 (by simp)
              obtain ⟨A', hsl, hcut⟩ := cut_from (P := Try.prog) 23 5 Try.underlying23 size_uint8 (some ⟨g, o, none⟩) b.length c p (by omega) (by omega)
              have hrd := hcut vB wr b rfl (hr.keep hbel)
              have hb8 : b.length - p = 8 := by omega
              rw [hb8] at hsl
              generalize b.drop p = S at hrd hFF' hSl
              subst hFF'
              have HS8 : Hid (S.length = 8) := by unfold Hid; omega
              clear hcut hcl' hrl hown hol hFF HF hSl h8 h9 hcl HCL hr
              go_upto_region 26 with fail
              have hS : threeP gl ol (.int .u64 (t : Int)) (.int .u64 (e : Int)) (.int .u64 (d : Int)) wr.drew := ⟨k0, k1, k2⟩
              have hRp' := hRp.drew
              have hrd' := hrd.keep (Below.refl wr.heap.size wr).drew
              have hbel' := hbel.drew
              have hgl' : gl < wr.drew.heap.size := hgl
              have hRp0 : w.heap.size < wr.drew.heap.size := hRp.lt
              refine wp_region_plan_of (threeP gl ol (.int .u64 (t : Int)) (.int .u64 (e : Int)) (.int .u64 (d : Int))) (.step 0 false (.step 1 false (.step 2 false (.step 3 false (.step 4 false (.step 5 false (.step 6 false (.step 7 false (.step 8 false (.step 10 false (.step 11 false (.step 12 false (.step 9 true (.step 13 true (.step 14 false (.step 15 true (.step 16 false (.nil)))))))))))))))))) hS (by kernel_rfl) (by kernel_rfl) (by rfl) (by kernel_rfl) ?_
              clear hRp hrd hbel k0 k1 k2 hgl
              generalize wr.drew = wv at *
              iterate 12 (refine plan_read rfl (by rfl) (v := ?_) ?_ ?_; rotate_left 1; (intro W hW; (try dsimp only at hW); obtain ⟨hW0, hW1⟩ := hW; go_simp <;> with_reducible rfl); simp only [List.getElem_toArray, List.getElem_cons_zero, List.getElem_cons_succ, Act.put, List.setIfInBounds_toArray, List.set_cons_zero, List.set_cons_succ])
              refine plan_make_of rfl (by rfl) (fun K hK => ?_)
              go_simp
              have hbn := below_new (Below.refl wv.heap.size wv) (.cells #[] 5)
              refine hK.out _ _ ⟨(hbn.cell (p := ⟨gl, ol, none⟩) hgl').trans hS.1, (hbn.cell (p := ⟨gl, ol + 1, none⟩) hgl').trans hS.2.1, (hbn.cell (p := ⟨gl, ol + 2, none⟩) hgl').trans hS.2.2⟩ ?_
              clear hK K
              have hown0 : (wv.alloc (.cells #[] 5)).ownsRow wv.heap.size 5 1 (.slice (some ⟨wv.heap.size, 0, none⟩) 0 0) 0 [] := World.ownsRow_made wv #[] 0 (Nat.le_refl _) (by unfold maxLen; omega) rfl
              refine plan_make_of rfl (by rfl) (fun K hK => ?_)
              refine wp_append_rd _ (.tmp 87) (.tmp 90) 23 rfl wv.heap.size 5 i8 (.int .u8 0) 1 Try.underlying23 hi8 hy0 hy1 hy2 rfl _ _ _ rfl hown0 A' S (c - p) (by rw [HS8.out]; rfl) (hrd'.keep hbn) vB_one (by rw [HS8.out]; unfold maxLen; omega) (by rw [HS8.out]; omega) (by simp) ?_
              intro v7 w7 hown7 hgrow7
              have hb7 : Below wv.heap.size wv w7 := hbn.grown hgrow7 (by simp) (fun k hk => (hown0.lt k hk).1)
              have hS7 : threeP gl ol (.int .u64 (t : Int)) (.int .u64 (e : Int)) (.int .u64 (d : Int)) w7 := ⟨(hb7.cell (p := ⟨gl, ol, none⟩) hgl').trans hS.1, (hb7.cell (p := ⟨gl, ol + 1, none⟩) hgl').trans hS.2.1, (hb7.cell (p := ⟨gl, ol + 2, none⟩) hgl').trans hS.2.2⟩
              refine hK.out _ _ hS7 ?_
              clear hK K
              rw [Nat.zero_add, List.nil_append] at hown7
              obtain ⟨A7, c7, rfl, hc7, hr7⟩ := own_slice hown7
              rw [HS8.out] at hc7 ⊢
              have hA7 := hown7.lt
              have hR7 := hRp'.later hb7
              have hB7 := below_step hbel' hb7
              simp only [List.getElem_toArray, List.getElem_cons_zero, List.getElem_cons_succ, Act.put, List.setIfInBounds_toArray, List.set_cons_zero, List.set_cons_succ]
              clear hown0 hown7 hgrow7 hbn hrd' hRp' hbel'
              iterate 1 (refine plan_read rfl (by rfl) (v := ?_) ?_ ?_; rotate_left 1; (intro W hW; (try dsimp only at hW); obtain ⟨hW0, hW1⟩ := hW; go_simp <;> with_reducible rfl); simp only [List.getElem_toArray, List.getElem_cons_zero, List.getElem_cons_succ, Act.put, List.setIfInBounds_toArray, List.set_cons_zero, List.set_cons_succ])
              have hne : ∀ q : Nat, (⟨gl, q, none⟩ : Addr).block ≠ w.heap.size := fun q => by show gl ≠ w.heap.size; omega
              have hcs : ∀ (q : Nat) (cs : Array Value), (w7.setRow w.heap.size cs).cell? ⟨gl, q, none⟩ = w7.cell? ⟨gl, q, none⟩ := fun q cs => cell_setRow_other w7 w.heap.size cs ⟨gl, q, none⟩ (hne q)
              refine plan_make_of rfl (by rfl) (fun K hK => ?_)
              refine hR7.wp_store 25 (.tmp 2) (.tmp 92) rfl rfl [.int .u64 (t : Int), .int .u64 (e : Int), .int .u64 (d : Int), .slice A7 8 c7] rfl (by exact size_pay) rfl (one_four _ _ _ _ rfl rfl rfl rfl) ?_
              refine hK.out _ _ ⟨(hcs ol _).trans hS7.1, (hcs (ol + 1) _).trans hS7.2.1, (hcs (ol + 2) _).trans hS7.2.2⟩ ?_
              clear hK K hcs hne
              simp only [List.getElem_toArray, List.getElem_cons_zero, List.getElem_cons_succ, Act.put, List.setIfInBounds_toArray, List.set_cons_zero, List.set_cons_succ]
              iterate 1 (refine plan_read rfl (by rfl) (v := ?_) ?_ ?_; rotate_left 1; (intro W hW; (try dsimp only at hW); obtain ⟨hW0, hW1⟩ := hW; go_simp <;> with_reducible rfl); simp only [List.getElem_toArray, List.getElem_cons_zero, List.getElem_cons_succ, Act.put, List.setIfInBounds_toArray, List.set_cons_zero, List.set_cons_succ])
              refine plan_done ?_
              clear hS hS7
              go_wp2_with fail
              refine bodyPost_ret (results_row_tmp (p := 2) (u := 3) (ty := 25) (by rfl) _ _ w.heap.size 25 _ _ (by rfl) (by exact hR7.setRow _) Try.underlying25 (by rfl) (by exact size_pay)) (by rfl) ?_
              have hbl7 : w.heap.size < wv.heap.size := hRp0
              exact ⟨A7, 8, c7, rfl, HS8, hc7, hr7.setRow _ (fun a ha => by have := (hA7 a.block (by rw [ha]; rfl)).1; omega), below_setRow hB7 (Nat.le_refl _) _⟩
    · have hF3 : F = (3, 0, 0, 0, []) := by rw [hrF, if_pos h87]
      have hx2 : x.toNat ≠ 87 := fun e => h87 (UInt8.toNat_inj.1 e)
      have hx3 : ((x.toNat : Int) == 87) = false := beq_eq_false_iff_ne.2 (by omega)
      have hx4 : ((x.toNat : Int) != 87) = true := by rw [bne, hx3]; rfl
      generalize x.toNat = xn at hx0 hx2 hx3 hx4
      clear hrF hdr hcell h87
      have hF : F = (3, 0, 0, 0, []) := hF3
      subst hF
      go_wp2_with (refine wpList_store_row rfl 25 (.tmp 2) (.tmp 16) rfl w.heap.size rfl [.int .u64 0, .int .u64 0, .int .u64 0, .slice none 0 0] rfl _ _ hR0 (by exact size_pay) rfl (one_four _ _ _ _ rfl rfl rfl rfl) ?_)
      refine bodyPost_ret (results_row_tmp (p := 2) (u := 3) (ty := 25) (by rfl) _ _ w.heap.size 25 _ _ (by rfl) (by exact hR0.setRow _) Try.underlying25 (by rfl) (by exact size_pay)) (by rfl) ?_
      exact ⟨none, 0, 0, rfl, Lib.hid rfl, Nat.le_refl _, Rd.nil, below_setRow hB0 (Nat.le_refl _) _⟩
end Go.Proofs.Yteppocjgodmpdaa
/-
  The field of 256 elements as plain functions on bytes: products bit by bit, and what is left of them by 301; that they make a field. No conditions but those typed.
-/
namespace Go.Proofs.Yteppocjgodmpdaa
set_option maxRecDepth 100000

/-- The product of two polynomials over two elements, by the first i bits of the second one. -/
def clN (a b : Nat) : Nat → Nat
  | 0 => 0
  | i + 1 => if b / 2 ^ i % 2 = 1 then clN a b i ^^^ a * 2 ^ i else clN a b i
/-- What is left, of the bit k. -/
def stepN (p k : Nat) : Nat := if p / 2 ^ k % 2 = 1 then p ^^^ 301 * 2 ^ (k - 8) else p
def redN (p : Nat) : Nat := stepN (stepN (stepN (stepN (stepN (stepN (stepN p 14) 13) 12) 11) 10) 9) 8
def mulN (a b : Nat) : Nat := redN (clN a b 8)
def mulB (a b : UInt8) : UInt8 := UInt8.ofNat (mulN a.toNat b.toNat)
def addB (a b : UInt8) : UInt8 := a ^^^ b

theorem bit_xor (p q k : Nat) : (p ^^^ q) / 2 ^ k % 2 = 1 ↔ ¬ (p / 2 ^ k % 2 = 1 ↔ q / 2 ^ k % 2 = 1) := by
  have e : ∀ x : Nat, x / 2 ^ k % 2 = 1 ↔ x.testBit k = true := fun x => by
    rw [Nat.testBit_eq_decide_div_mod_eq]
    simp
  rw [e, e, e, Nat.testBit_xor]
  cases p.testBit k <;> cases q.testBit k <;> simp
theorem mul_xor (p q i : Nat) : (p ^^^ q) * 2 ^ i = p * 2 ^ i ^^^ q * 2 ^ i := by
  rw [← Nat.shiftLeft_eq, ← Nat.shiftLeft_eq, ← Nat.shiftLeft_eq, Nat.shiftLeft_xor_distrib]
theorem xor_four (a b c d : Nat) : (a ^^^ b) ^^^ (c ^^^ d) = (a ^^^ c) ^^^ (b ^^^ d) := by ac_rfl
theorem stepN_xor (p q k : Nat) : stepN (p ^^^ q) k = stepN p k ^^^ stepN q k := by
  unfold stepN
  have h := bit_xor p q k
  by_cases hp : p / 2 ^ k % 2 = 1 <;> by_cases hq : q / 2 ^ k % 2 = 1
  · rw [if_neg (by rw [h]; simp [hp, hq]), if_pos hp, if_pos hq, xor_four, Nat.xor_self, Nat.xor_zero]
  · rw [if_pos (by rw [h]; simp [hp, hq]), if_pos hp, if_neg hq]; ac_rfl
  · rw [if_pos (by rw [h]; simp [hp, hq]), if_neg hp, if_pos hq]; ac_rfl
  · rw [if_neg (by rw [h]; simp [hp, hq]), if_neg hp, if_neg hq]
theorem redN_xor (p q : Nat) : redN (p ^^^ q) = redN p ^^^ redN q := by
  unfold redN
  rw [stepN_xor, stepN_xor, stepN_xor, stepN_xor, stepN_xor, stepN_xor, stepN_xor]
theorem clN_xor_left (a a' b : Nat) : ∀ i, clN (a ^^^ a') b i = clN a b i ^^^ clN a' b i
  | 0 => by simp [clN]
  | i + 1 => by
    unfold clN
    rw [clN_xor_left a a' b i, mul_xor]
    split
    · rw [xor_four]
    · rfl
theorem clN_xor_right (a b b' : Nat) : ∀ i, clN a (b ^^^ b') i = clN a b i ^^^ clN a b' i
  | 0 => by simp [clN]
  | i + 1 => by
    unfold clN
    rw [clN_xor_right a b b' i]
    have h := bit_xor b b' i
    by_cases hp : b / 2 ^ i % 2 = 1 <;> by_cases hq : b' / 2 ^ i % 2 = 1
    · rw [if_neg (by rw [h]; simp [hp, hq]), if_pos hp, if_pos hq, xor_four, Nat.xor_self, Nat.xor_zero]
    · rw [if_pos (by rw [h]; simp [hp, hq]), if_pos hp, if_neg hq]; ac_rfl
    · rw [if_pos (by rw [h]; simp [hp, hq]), if_neg hp, if_pos hq]; ac_rfl
    · rw [if_neg (by rw [h]; simp [hp, hq]), if_neg hp, if_neg hq]
theorem ofNat_xor (p q : Nat) : UInt8.ofNat (p ^^^ q) = UInt8.ofNat p ^^^ UInt8.ofNat q := by
  apply UInt8.toNat_inj.1
  rw [UInt8.toNat_xor, UInt8.toNat_ofNat', UInt8.toNat_ofNat', UInt8.toNat_ofNat']
  exact Nat.xor_mod_two_pow
theorem mul_add_left (a a' b : UInt8) : mulB (addB a a') b = addB (mulB a b) (mulB a' b) := by
  unfold mulB mulN addB
  rw [UInt8.toNat_xor, clN_xor_left, redN_xor, ofNat_xor]
theorem mul_add_right (a b b' : UInt8) : mulB a (addB b b') = addB (mulB a b) (mulB a b') := by
  unfold mulB mulN addB
  rw [UInt8.toNat_xor, clN_xor_right, redN_xor, ofNat_xor]

/-! ### What is additive is told by the eight bits -/
theorem all_bytes {p : UInt8 → Prop} (h : ∀ n, n < 256 → p (UInt8.ofNat n)) (x : UInt8) : p x := by
  have := h x.toNat x.toNat_lt
  rwa [UInt8.ofNat_toNat] at this
theorem byte_bits (x : UInt8) : x = (x &&& 1) ^^^ ((x &&& 2) ^^^ ((x &&& 4) ^^^ ((x &&& 8) ^^^ ((x &&& 16) ^^^ ((x &&& 32) ^^^ ((x &&& 64) ^^^ (x &&& 128))))))) := by
  refine all_bytes (p := fun x => x = (x &&& 1) ^^^ ((x &&& 2) ^^^ ((x &&& 4) ^^^ ((x &&& 8) ^^^ ((x &&& 16) ^^^ ((x &&& 32) ^^^ ((x &&& 64) ^^^ (x &&& 128)))))))) ?_ x
  decide +kernel
theorem bit_or (x : UInt8) : ((x &&& 1) = 0 ∨ (x &&& 1) = 1) ∧ ((x &&& 2) = 0 ∨ (x &&& 2) = 2) ∧ ((x &&& 4) = 0 ∨ (x &&& 4) = 4) ∧ ((x &&& 8) = 0 ∨ (x &&& 8) = 8) ∧ ((x &&& 16) = 0 ∨ (x &&& 16) = 16) ∧ ((x &&& 32) = 0 ∨ (x &&& 32) = 32) ∧ ((x &&& 64) = 0 ∨ (x &&& 64) = 64) ∧ ((x &&& 128) = 0 ∨ (x &&& 128) = 128) := by
  refine all_bytes (p := fun x => ((x &&& 1) = 0 ∨ (x &&& 1) = 1) ∧ ((x &&& 2) = 0 ∨ (x &&& 2) = 2) ∧ ((x &&& 4) = 0 ∨ (x &&& 4) = 4) ∧ ((x &&& 8) = 0 ∨ (x &&& 8) = 8) ∧ ((x &&& 16) = 0 ∨ (x &&& 16) = 16) ∧ ((x &&& 32) = 0 ∨ (x &&& 32) = 32) ∧ ((x &&& 64) = 0 ∨ (x &&& 64) = 64) ∧ ((x &&& 128) = 0 ∨ (x &&& 128) = 128)) ?_ x
  decide +kernel
def bitsB : List UInt8 := [1, 2, 4, 8, 16, 32, 64, 128]
theorem add_self (x : UInt8) : addB x x = 0 := UInt8.xor_self
theorem add_zero (x : UInt8) : addB x 0 = x := UInt8.xor_zero
theorem zero_add (x : UInt8) : addB 0 x = x := UInt8.zero_xor
theorem add_comm (x y : UInt8) : addB x y = addB y x := UInt8.xor_comm x y
theorem add_assoc (x y z : UInt8) : addB (addB x y) z = addB x (addB y z) := UInt8.xor_assoc x y z
theorem additive_zero {f : UInt8 → UInt8} (hf : ∀ x y, f (addB x y) = addB (f x) (f y)) : f 0 = 0 := by
  have := hf 0 0
  rw [add_self, add_self] at this
  exact this
theorem additive_eq {f g : UInt8 → UInt8} (hf : ∀ x y, f (addB x y) = addB (f x) (f y)) (hg : ∀ x y, g (addB x y) = addB (g x) (g y)) (h : ∀ b ∈ bitsB, f b = g b) (x : UInt8) : f x = g x := by
  have f0 := additive_zero hf
  have g0 := additive_zero hg
  have one : ∀ (y b : UInt8), b ∈ bitsB → (y = 0 ∨ y = b) → f y = g y := by
    intro y b hb hy
    rcases hy with rfl | rfl
    · rw [f0, g0]
    · exact h _ hb
  obtain ⟨h1, h2, h3, h4, h5, h6, h7, h8⟩ := bit_or x
  have e1 := one _ 1 (by simp [bitsB]) h1
  have e2 := one _ 2 (by simp [bitsB]) h2
  have e3 := one _ 4 (by simp [bitsB]) h3
  have e4 := one _ 8 (by simp [bitsB]) h4
  have e5 := one _ 16 (by simp [bitsB]) h5
  have e6 := one _ 32 (by simp [bitsB]) h6
  have e7 := one _ 64 (by simp [bitsB]) h7
  have e8 := one _ 128 (by simp [bitsB]) h8
  have hx := byte_bits x
  generalize x &&& 1 = x1 at *
  generalize x &&& 2 = x2 at *
  generalize x &&& 4 = x3 at *
  generalize x &&& 8 = x4 at *
  generalize x &&& 16 = x5 at *
  generalize x &&& 32 = x6 at *
  generalize x &&& 64 = x7 at *
  generalize x &&& 128 = x8 at *
  have hx' : x = addB x1 (addB x2 (addB x3 (addB x4 (addB x5 (addB x6 (addB x7 x8)))))) := hx
  rw [hx', hf, hf, hf, hf, hf, hf, hf, hg, hg, hg, hg, hg, hg, hg, e1, e2, e3, e4, e5, e6, e7, e8]

theorem mul_comm (a b : UInt8) : mulB a b = mulB b a := by
  refine additive_eq (f := fun a => mulB a b) (g := fun a => mulB b a) (fun x y => mul_add_left x y b) (fun x y => mul_add_right b x y) (fun u hu => ?_) a
  refine additive_eq (f := fun b => mulB u b) (g := fun b => mulB b u) (fun x y => mul_add_right u x y) (fun x y => mul_add_left x y u) (fun v hv => ?_) b
  have : ∀ u ∈ bitsB, ∀ v ∈ bitsB, mulB u v = mulB v u := by decide +kernel
  exact this u hu v hv
theorem mul_assoc (a b c : UInt8) : mulB (mulB a b) c = mulB a (mulB b c) := by
  refine additive_eq (f := fun a => mulB (mulB a b) c) (g := fun a => mulB a (mulB b c)) (fun x y => by rw [mul_add_left, mul_add_left]) (fun x y => mul_add_left x y _) (fun u hu => ?_) a
  refine additive_eq (f := fun b => mulB (mulB u b) c) (g := fun b => mulB u (mulB b c)) (fun x y => by rw [mul_add_right, mul_add_left]) (fun x y => by rw [mul_add_left, mul_add_right]) (fun v hv => ?_) b
  refine additive_eq (f := fun c => mulB (mulB u v) c) (g := fun c => mulB u (mulB v c)) (fun x y => mul_add_right _ x y) (fun x y => by rw [mul_add_right, mul_add_right]) (fun w hw => ?_) c
  have : ∀ u ∈ bitsB, ∀ v ∈ bitsB, ∀ w ∈ bitsB, mulB (mulB u v) w = mulB u (mulB v w) := by decide +kernel
  exact this u hu v hv w hw
theorem mul_one (a : UInt8) : mulB a 1 = a := by
  refine additive_eq (f := fun a => mulB a 1) (g := fun a => a) (fun x y => mul_add_left x y 1) (fun _ _ => rfl) (fun u hu => ?_) a
  have : ∀ u ∈ bitsB, mulB u 1 = u := by decide +kernel
  exact this u hu
theorem one_mul (a : UInt8) : mulB 1 a = a := by rw [mul_comm, mul_one]
theorem mul_zero (a : UInt8) : mulB a 0 = 0 := additive_zero (f := fun b => mulB a b) (fun x y => mul_add_right a x y)
theorem zero_mul (a : UInt8) : mulB 0 a = 0 := by rw [mul_comm, mul_zero]

/-! ### Powers of 2 -/
def powB (a : UInt8) : Nat → UInt8
  | 0 => 1
  | n + 1 => mulB (powB a n) a
theorem pow_add (a : UInt8) (m : Nat) : ∀ n, powB a (m + n) = mulB (powB a m) (powB a n)
  | 0 => by rw [powB, mul_one]; rfl
  | n + 1 => by rw [← Nat.add_assoc, powB, pow_add a m n, powB, mul_assoc]
theorem pow_mul (a : UInt8) (m : Nat) : ∀ n, powB a (m * n) = powB (powB a m) n
  | 0 => rfl
  | n + 1 => by rw [Nat.mul_succ, pow_add, pow_mul a m n, powB]
theorem pow_one (n : Nat) : powB 1 n = 1 := by
  induction n with
  | zero => rfl
  | succ n ih => rw [powB, ih, mul_one]

/-- The powers of 2 from 0 on. -/
def expL : List UInt8 := [1, 2, 4, 8, 16, 32, 64, 128, 45, 90, 180, 69, 138, 57, 114, 228, 229, 231, 227, 235, 251, 219, 155, 27, 54, 108, 216, 157, 23, 46, 92, 184, 93, 186, 89, 178, 73, 146, 9, 18, 36, 72, 144, 13, 26, 52, 104, 208, 141, 55, 110, 220, 149, 7, 14, 28, 56, 112, 224, 237, 247, 195, 171, 123, 246, 193, 175, 115, 230, 225, 239, 243, 203, 187, 91, 182, 65, 130, 41, 82, 164, 101, 202, 185, 95, 190, 81, 162, 105, 210, 137, 63, 126, 252, 213, 135, 35, 70, 140, 53, 106, 212, 133, 39, 78, 156, 21, 42, 84, 168, 125, 250, 217, 159, 19, 38, 76, 152, 29, 58, 116, 232, 253, 215, 131, 43, 86, 172, 117, 234, 249, 223, 147, 11, 22, 44, 88, 176, 77, 154, 25, 50, 100, 200, 189, 87, 174, 113, 226, 233, 255, 211, 139, 59, 118, 236, 245, 199, 163, 107, 214, 129, 47, 94, 188, 85, 170, 121, 242, 201, 191, 83, 166, 97, 194, 169, 127, 254, 209, 143, 51, 102, 204, 181, 71, 142, 49, 98, 196, 165, 103, 206, 177, 79, 158, 17, 34, 68, 136, 61, 122, 244, 197, 167, 99, 198, 161, 111, 222, 145, 15, 30, 60, 120, 240, 205, 183, 67, 134, 33, 66, 132, 37, 74, 148, 5, 10, 20, 40, 80, 160, 109, 218, 153, 31, 62, 124, 248, 221, 151, 3, 6, 12, 24, 48, 96, 192, 173, 119, 238, 241, 207, 179, 75, 150]
def logL : List Nat := [0, 0, 1, 240, 2, 225, 241, 53, 3, 38, 226, 133, 242, 43, 54, 210, 4, 195, 39, 114, 227, 106, 134, 28, 243, 140, 44, 23, 55, 118, 211, 234, 5, 219, 196, 96, 40, 222, 115, 103, 228, 78, 107, 125, 135, 8, 29, 162, 244, 186, 141, 180, 45, 99, 24, 49, 56, 13, 119, 153, 212, 199, 235, 91, 6, 76, 220, 217, 197, 11, 97, 184, 41, 36, 223, 253, 116, 138, 104, 193, 229, 86, 79, 171, 108, 165, 126, 145, 136, 34, 9, 74, 30, 32, 163, 84, 245, 173, 187, 204, 142, 81, 181, 190, 46, 88, 100, 159, 25, 231, 50, 207, 57, 147, 14, 67, 120, 128, 154, 248, 213, 167, 200, 63, 236, 110, 92, 176, 7, 161, 77, 124, 221, 102, 218, 95, 198, 90, 12, 152, 98, 48, 185, 179, 42, 209, 37, 132, 224, 52, 254, 239, 117, 233, 139, 22, 105, 27, 194, 113, 230, 206, 87, 158, 80, 189, 172, 203, 109, 175, 166, 62, 127, 247, 146, 66, 137, 192, 35, 252, 10, 183, 75, 216, 31, 83, 33, 73, 164, 144, 85, 170, 246, 65, 174, 61, 188, 202, 205, 157, 143, 169, 82, 72, 182, 215, 191, 251, 47, 178, 89, 151, 101, 94, 160, 123, 26, 112, 232, 21, 51, 238, 208, 131, 58, 69, 148, 18, 15, 16, 68, 17, 121, 149, 129, 19, 155, 59, 249, 70, 214, 250, 168, 71, 201, 156, 64, 60, 237, 130, 111, 20, 93, 122, 177, 150]
theorem expL_length : expL.length = 255 := by decide +kernel
theorem expL_step : ∀ i, i < 254 → expL.getD (i + 1) 0 = mulB (expL.getD i 0) 2 := by decide +kernel
theorem exp_at : ∀ i, i < 255 → powB 2 i = expL.getD i 0
  | 0, _ => rfl
  | i + 1, h => by rw [powB, exp_at i (by omega), expL_step i (by omega)]
theorem exp_255 : powB 2 255 = 1 := by
  rw [show (255 : Nat) = 254 + 1 by rfl, powB, exp_at 254 (by omega)]
  decide +kernel
/-- Each element but 0 is a power of 2. -/
def logB (a : UInt8) : Nat := logL.getD a.toNat 0
theorem log_table : ∀ n, n < 256 → (n = 0 ∨ logL.getD n 0 < 255 ∧ expL.getD (logL.getD n 0) 0 = UInt8.ofNat n) := by decide +kernel
theorem exp_table : ∀ i, i < 255 → expL.getD i 0 ≠ 0 ∧ logL.getD (expL.getD i 0).toNat 0 = i := by decide +kernel
theorem log_lt (a : UInt8) (h : a ≠ 0) : logB a < 255 := by
  have := log_table a.toNat a.toNat_lt
  rcases this with h0 | ⟨h1, _⟩
  · exact absurd (UInt8.toNat_inj.1 h0) h
  · exact h1
theorem exp_log (a : UInt8) (h : a ≠ 0) : powB 2 (logB a) = a := by
  have := log_table a.toNat a.toNat_lt
  rcases this with h0 | ⟨h1, h2⟩
  · exact absurd (UInt8.toNat_inj.1 h0) h
  · rw [exp_at _ (log_lt a h)]
    unfold logB
    rw [h2, UInt8.ofNat_toNat]
theorem log_exp (i : Nat) (h : i < 255) : logB (powB 2 i) = i := by
  rw [exp_at i h]
  exact (exp_table i h).2
theorem exp_ne (i : Nat) : powB 2 i ≠ 0 := by
  have e : powB 2 i = powB 2 (i % 255) := by
    conv => lhs; rw [← Nat.div_add_mod i 255]
    rw [pow_add, pow_mul, exp_255, pow_one, one_mul]
  rw [e, exp_at _ (Nat.mod_lt _ (by omega))]
  exact (exp_table _ (Nat.mod_lt _ (by omega))).1
theorem exp_mod (i : Nat) : powB 2 i = powB 2 (i % 255) := by
  conv => lhs; rw [← Nat.div_add_mod i 255]
  rw [pow_add, pow_mul, exp_255, pow_one, one_mul]
theorem mul_ne (a b : UInt8) (ha : a ≠ 0) (hb : b ≠ 0) : mulB a b ≠ 0 := by
  rw [← exp_log a ha, ← exp_log b hb, ← pow_add]
  exact exp_ne _
theorem mul_eq_zero (a b : UInt8) : mulB a b = 0 ↔ a = 0 ∨ b = 0 := by
  constructor
  · intro h
    by_cases ha : a = 0
    · exact .inl ha
    · by_cases hb : b = 0
      · exact .inr hb
      · exact absurd h (mul_ne a b ha hb)
  · rintro (rfl | rfl)
    · exact zero_mul _
    · exact mul_zero _
theorem log_mul (a b : UInt8) (ha : a ≠ 0) (hb : b ≠ 0) : logB (mulB a b) = (logB a + logB b) % 255 := by
  conv => lhs; rw [← exp_log a ha, ← exp_log b hb, ← pow_add, exp_mod]
  exact log_exp _ (Nat.mod_lt _ (by omega))
theorem pow_255 (a : UInt8) (ha : a ≠ 0) : powB a 255 = 1 := by
  rw [← exp_log a ha, ← pow_mul, Nat.mul_comm, pow_mul, exp_255, pow_one]
theorem pow_mod (a : UInt8) (ha : a ≠ 0) (n : Nat) : powB a n = powB a (n % 255) := by
  conv => lhs; rw [← Nat.div_add_mod n 255]
  rw [pow_add, pow_mul, pow_255 a ha, pow_one, one_mul]
/-- The inverse. -/
def invB (a : UInt8) : UInt8 := powB a 254
theorem mul_inv (a : UInt8) (ha : a ≠ 0) : mulB a (invB a) = 1 := by
  have e : mulB (powB a 254) a = powB a 255 := rfl
  rw [invB, mul_comm, e, pow_255 a ha]
theorem inv_ne (a : UInt8) (ha : a ≠ 0) : invB a ≠ 0 := by
  intro h
  have := mul_inv a ha
  rw [h, mul_zero] at this
  exact absurd this (by decide)
theorem mul_cancel (a b c : UInt8) (ha : a ≠ 0) (h : mulB a b = mulB a c) : b = c := by
  have := congrArg (mulB (invB a)) h
  rwa [← mul_assoc, ← mul_assoc, mul_comm (invB a) a, mul_inv a ha, one_mul, one_mul] at this
theorem inv_unique (a b : UInt8) (h : mulB a b = 1) : b = invB a := by
  have ha : a ≠ 0 := by
    rintro rfl
    rw [zero_mul] at h
    exact absurd h (by decide)
  exact mul_cancel a b (invB a) ha (by rw [h, mul_inv a ha])
theorem square_add (a b : UInt8) : mulB (addB a b) (addB a b) = addB (mulB a a) (mulB b b) := by
  rw [mul_add_left, mul_add_right, mul_add_right, mul_comm b a, add_assoc, ← add_assoc (mulB a b) (mulB a b), add_self, zero_add]
end Go.Proofs.Yteppocjgodmpdaa
/-
  Polynomials over the field of 256 elements as plain functions on lists of coefficients: sums, products, values, plain forms, division, slopes; the laws of a ring, up to zeros behind. No conditions but those typed.
-/
namespace Go.Proofs.Yteppocjgodmpdaa
set_option maxRecDepth 100000
set_option linter.unusedVariables false
set_option linter.unusedSimpArgs false

def co (p : List UInt8) (k : Nat) : UInt8 := p.getD k 0
theorem co_nil (k : Nat) : co [] k = 0 := by simp [co]
theorem co_zero (a : UInt8) (p : List UInt8) : co (a :: p) 0 = a := rfl
theorem co_succ (a : UInt8) (p : List UInt8) (k : Nat) : co (a :: p) (k + 1) = co p k := by simp [co]
theorem co_ge (p : List UInt8) (k : Nat) (h : p.length ≤ k) : co p k = 0 := by simp [co, List.getD_eq_getElem?_getD, List.getElem?_eq_none h]
theorem co_lt (p : List UInt8) (k : Nat) (h : k < p.length) : co p k = p[k] := by simp [co, List.getD_eq_getElem?_getD, List.getElem?_eq_getElem h]

/-- The same polynomial, zeros behind let aside. -/
def Eqv (p q : List UInt8) : Prop := ∀ k, co p k = co q k
theorem Eqv.refl (p : List UInt8) : Eqv p p := fun _ => rfl
theorem Eqv.symm {p q : List UInt8} (h : Eqv p q) : Eqv q p := fun k => (h k).symm
theorem Eqv.trans {p q r : List UInt8} (h : Eqv p q) (g : Eqv q r) : Eqv p r := fun k => (h k).trans (g k)
theorem Eqv.cons {p q : List UInt8} (a : UInt8) (h : Eqv p q) : Eqv (a :: p) (a :: q) := fun k => by
  cases k with
  | zero => rfl
  | succ k => rw [co_succ, co_succ, h k]
theorem Eqv.tail {a b : UInt8} {p q : List UInt8} (h : Eqv (a :: p) (b :: q)) : a = b ∧ Eqv p q := ⟨h 0, fun k => by have := h (k + 1); rwa [co_succ, co_succ] at this⟩
theorem Eqv.nil_cons {b : UInt8} {q : List UInt8} (h : Eqv [] (b :: q)) : b = 0 ∧ Eqv [] q := ⟨by have := h 0; rw [co_nil, co_zero] at this; exact this.symm, fun k => by have := h (k + 1); rwa [co_nil, co_succ, ← co_nil k] at this⟩
theorem zero_cons : Eqv [0] [] := fun k => by cases k <;> simp [co]
theorem cons_nil {p : List UInt8} (h : Eqv p []) : Eqv (0 :: p) [] := fun k => by
  cases k with
  | zero => rw [co_zero, co_nil]
  | succ k => rw [co_succ, h k, co_nil, co_nil]

/-! ### Sums, multiples, products -/
def addL : List UInt8 → List UInt8 → List UInt8
  | [], q => q
  | a :: p, [] => a :: p
  | a :: p, b :: q => addB a b :: addL p q
theorem co_add : ∀ (p q : List UInt8) (k : Nat), co (addL p q) k = addB (co p k) (co q k)
  | [], q, k => by rw [addL, co_nil, zero_add]
  | a :: p, [], k => by rw [addL, co_nil, add_zero]
  | a :: p, b :: q, 0 => rfl
  | a :: p, b :: q, k + 1 => by rw [addL, co_succ, co_succ, co_succ, co_add p q k]
def scaleL (a : UInt8) (p : List UInt8) : List UInt8 := p.map (mulB a)
theorem co_scale (a : UInt8) : ∀ (p : List UInt8) (k : Nat), co (scaleL a p) k = mulB a (co p k)
  | [], k => by rw [scaleL, List.map_nil, co_nil, mul_zero]
  | b :: p, 0 => rfl
  | b :: p, k + 1 => by rw [scaleL, List.map_cons, co_succ, co_succ]; exact co_scale a p k
def mulL : List UInt8 → List UInt8 → List UInt8
  | [], _ => []
  | a :: p, q => addL (scaleL a q) (0 :: mulL p q)
theorem add_congr {p p' q q' : List UInt8} (h : Eqv p p') (g : Eqv q q') : Eqv (addL p q) (addL p' q') := fun k => by rw [co_add, co_add, h k, g k]
theorem addL_comm (p q : List UInt8) : Eqv (addL p q) (addL q p) := fun k => by rw [co_add, co_add, add_comm]
theorem addL_assoc (p q r : List UInt8) : Eqv (addL (addL p q) r) (addL p (addL q r)) := fun k => by rw [co_add, co_add, co_add, co_add, add_assoc]
theorem addL_self (p : List UInt8) : Eqv (addL p p) [] := fun k => by rw [co_add, add_self, co_nil]
theorem addL_nil (p : List UInt8) : Eqv (addL p []) p := fun k => by rw [co_add, co_nil, add_zero]
theorem add_four (a b c d : UInt8) : addB (addB a b) (addB c d) = addB (addB a c) (addB b d) := by
  unfold addB
  ac_rfl
theorem addL_four (p q r s : List UInt8) : Eqv (addL (addL p q) (addL r s)) (addL (addL p r) (addL q s)) := fun k => by simp only [co_add]; exact add_four _ _ _ _
theorem scale_congr (a : UInt8) {p q : List UInt8} (h : Eqv p q) : Eqv (scaleL a p) (scaleL a q) := fun k => by rw [co_scale, co_scale, h k]
theorem scale_add (a : UInt8) (p q : List UInt8) : Eqv (scaleL a (addL p q)) (addL (scaleL a p) (scaleL a q)) := fun k => by simp only [co_scale, co_add, mul_add_right]
theorem scale_scale (a b : UInt8) (p : List UInt8) : Eqv (scaleL a (scaleL b p)) (scaleL (mulB a b) p) := fun k => by simp only [co_scale, mul_assoc]
theorem scale_cons (a b : UInt8) (p : List UInt8) : scaleL a (b :: p) = mulB a b :: scaleL a p := rfl
theorem scale_shift (a : UInt8) (p : List UInt8) : Eqv (scaleL a (0 :: p)) (0 :: scaleL a p) := by
  rw [scale_cons, mul_zero]
  exact Eqv.refl _
theorem scale_zero (p : List UInt8) : Eqv (scaleL 0 p) [] := fun k => by rw [co_scale, zero_mul, co_nil]
theorem scale_one (p : List UInt8) : scaleL 1 p = p := by
  unfold scaleL
  have : (mulB 1) = id := funext one_mul
  rw [this, List.map_id]
theorem shift_add (p q : List UInt8) : Eqv (0 :: addL p q) (addL (0 :: p) (0 :: q)) := fun k => by
  cases k with
  | zero => rfl
  | succ k => simp only [co_succ, co_add]
theorem mulL_nil : ∀ p : List UInt8, Eqv (mulL p []) []
  | [] => Eqv.refl _
  | a :: p => by
    rw [mulL]
    exact (add_congr (Eqv.refl _) (cons_nil (mulL_nil p))).trans (addL_nil _)
theorem mul_congr_right : ∀ (p : List UInt8) {q q' : List UInt8}, Eqv q q' → Eqv (mulL p q) (mulL p q')
  | [], _, _, _ => Eqv.refl _
  | a :: p, _, _, h => add_congr (scale_congr a h) ((mul_congr_right p h).cons 0)
theorem mulL_add_right : ∀ (p q r : List UInt8), Eqv (mulL p (addL q r)) (addL (mulL p q) (mulL p r))
  | [], q, r => Eqv.refl _
  | a :: p, q, r => by
    rw [mulL, mulL, mulL]
    exact (add_congr (scale_add a q r) (((mulL_add_right p q r).cons 0).trans (shift_add _ _))).trans (addL_four _ _ _ _)
theorem mulL_scale_right (b : UInt8) : ∀ (p q : List UInt8), Eqv (mulL p (scaleL b q)) (scaleL b (mulL p q))
  | [], q => Eqv.refl _
  | a :: p, q => by
    rw [mulL, mulL]
    refine (add_congr ?_ ((mulL_scale_right b p q).cons 0)).trans (Eqv.symm ((scale_add b _ _).trans (add_congr (Eqv.refl _) (scale_shift b _))))
    exact fun k => by simp only [co_scale, ← mul_assoc, mul_comm a b]
theorem mulL_shift_right : ∀ (p q : List UInt8), Eqv (mulL p (0 :: q)) (0 :: mulL p q)
  | [], q => zero_cons.symm
  | a :: p, q => by
    rw [mulL, mulL]
    exact (add_congr (scale_shift a q) ((mulL_shift_right p q).cons 0)).trans (shift_add _ _).symm
theorem mulL_one_right (b : UInt8) : ∀ p : List UInt8, Eqv (mulL p [b]) (scaleL b p)
  | [] => Eqv.refl _
  | a :: p => by
    rw [mulL]
    refine (add_congr (Eqv.refl _) ((mulL_one_right b p).cons 0)).trans (fun k => ?_)
    cases k with
    | zero => rw [co_add, co_scale, co_zero, co_zero, co_scale, co_zero, add_zero, mul_comm]
    | succ k => rw [co_add, co_scale, co_succ, co_nil, mul_zero, zero_add, co_succ, scale_cons, co_succ]
theorem cons_split (b : UInt8) (q : List UInt8) : Eqv (b :: q) (addL [b] (0 :: q)) := fun k => by
  cases k with
  | zero => rw [co_add, co_zero, co_zero, co_zero, add_zero]
  | succ k => rw [co_add, co_succ, co_succ, co_succ, co_nil, zero_add]
theorem mulL_cons_right (p : List UInt8) (b : UInt8) (q : List UInt8) : Eqv (mulL p (b :: q)) (addL (scaleL b p) (0 :: mulL p q)) :=
  ((mul_congr_right p (cons_split b q)).trans (mulL_add_right p _ _)).trans (add_congr (mulL_one_right b p) (mulL_shift_right p q))
theorem mulL_comm : ∀ p q : List UInt8, Eqv (mulL p q) (mulL q p)
  | [], q => (mulL_nil q).symm
  | a :: p, q => by
    rw [mulL]
    exact (add_congr (Eqv.refl _) ((mulL_comm p q).cons 0)).trans (mulL_cons_right q a p).symm
theorem mul_congr {p p' q q' : List UInt8} (h : Eqv p p') (g : Eqv q q') : Eqv (mulL p q) (mulL p' q') :=
  (mul_congr_right p g).trans ((mulL_comm p q').trans ((mul_congr_right q' h).trans (mulL_comm q' p')))
theorem mulL_add_left (p q r : List UInt8) : Eqv (mulL (addL p q) r) (addL (mulL p r) (mulL q r)) :=
  (mulL_comm _ _).trans ((mulL_add_right r p q).trans (add_congr (mulL_comm r p) (mulL_comm r q)))
theorem mulL_scale_left (b : UInt8) (p q : List UInt8) : Eqv (mulL (scaleL b p) q) (scaleL b (mulL p q)) :=
  (mulL_comm _ _).trans ((mulL_scale_right b q p).trans (scale_congr b (mulL_comm q p)))
theorem mulL_shift_left (p q : List UInt8) : Eqv (mulL (0 :: p) q) (0 :: mulL p q) :=
  (mulL_comm _ _).trans ((mulL_shift_right q p).trans ((mulL_comm q p).cons 0))
theorem mulL_assoc : ∀ p q r : List UInt8, Eqv (mulL (mulL p q) r) (mulL p (mulL q r))
  | [], q, r => Eqv.refl _
  | a :: p, q, r => by
    rw [mulL, mulL]
    exact (mulL_add_left _ _ _).trans (add_congr (mulL_scale_left a q r) ((mulL_shift_left _ _).trans ((mulL_assoc p q r).cons 0)))

/-! ### Values -/
def evalL : List UInt8 → UInt8 → UInt8
  | [], _ => 0
  | a :: p, x => addB a (mulB x (evalL p x))
theorem eval_nil : ∀ {q : List UInt8}, Eqv [] q → ∀ x, evalL q x = 0
  | [], _, _ => rfl
  | b :: q, h, x => by
    obtain ⟨h0, h1⟩ := h.nil_cons
    rw [evalL, h0, eval_nil h1 x, mul_zero, zero_add]
theorem eval_congr : ∀ {p q : List UInt8}, Eqv p q → ∀ x, evalL p x = evalL q x
  | [], q, h, x => (eval_nil h x).symm
  | a :: p, [], h, x => eval_nil h.symm x
  | a :: p, b :: q, h, x => by
    obtain ⟨h0, h1⟩ := h.tail
    rw [evalL, evalL, h0, eval_congr h1 x]
theorem eval_add : ∀ (p q : List UInt8) (x : UInt8), evalL (addL p q) x = addB (evalL p x) (evalL q x)
  | [], q, x => by rw [addL, evalL, zero_add]
  | a :: p, [], x => by rw [addL, evalL, add_zero]
  | a :: p, b :: q, x => by rw [addL, evalL, evalL, evalL, eval_add p q x, mul_add_right, add_four]
theorem eval_scale (b : UInt8) : ∀ (p : List UInt8) (x : UInt8), evalL (scaleL b p) x = mulB b (evalL p x)
  | [], x => by rw [scaleL, List.map_nil, evalL, mul_zero]
  | a :: p, x => by
    have ih := eval_scale b p x
    rw [scale_cons, evalL, evalL, ih, mul_add_right, ← mul_assoc, ← mul_assoc, mul_comm x b]
theorem eval_mul : ∀ (p q : List UInt8) (x : UInt8), evalL (mulL p q) x = mulB (evalL p x) (evalL q x)
  | [], q, x => by rw [mulL, evalL, zero_mul]
  | a :: p, q, x => by rw [mulL, eval_add, eval_scale, evalL, evalL, zero_add, eval_mul p q x, mul_add_left, mul_assoc]
theorem eval_snoc (a : UInt8) (x : UInt8) : ∀ p : List UInt8, evalL (p ++ [a]) x = addB (evalL p x) (mulB a (powB x p.length))
  | [] => by
    rw [List.nil_append, evalL, evalL, evalL, mul_zero, add_zero, zero_add]
    exact (mul_one a).symm
  | b :: p => by
    have hp : powB x (p.length + 1) = mulB (powB x p.length) x := rfl
    rw [List.cons_append, evalL, evalL, eval_snoc a x p, List.length_cons, hp, mul_add_right, ← add_assoc, mul_comm (powB x p.length) x, ← mul_assoc, ← mul_assoc, mul_comm a x]

/-! ### Plain forms -/
def plainL : List UInt8 → List UInt8
  | [] => []
  | a :: p => if plainL p = [] ∧ a = 0 then [] else a :: plainL p
theorem plain_eqv : ∀ p : List UInt8, Eqv (plainL p) p
  | [] => Eqv.refl _
  | a :: p => by
    rw [plainL]
    split
    · next h =>
      have := plain_eqv p
      rw [h.1] at this
      rw [h.2]
      exact (cons_nil this.symm).symm
    · exact (plain_eqv p).cons a
theorem plain_nil : ∀ {q : List UInt8}, Eqv [] q → plainL q = []
  | [], _ => rfl
  | b :: q, h => by
    obtain ⟨h0, h1⟩ := h.nil_cons
    rw [plainL, if_pos ⟨plain_nil h1, h0⟩]
theorem plain_congr : ∀ {p q : List UInt8}, Eqv p q → plainL p = plainL q
  | [], q, h => (plain_nil h).symm
  | a :: p, [], h => plain_nil h.symm
  | a :: p, b :: q, h => by
    obtain ⟨h0, h1⟩ := h.tail
    rw [plainL, plainL, h0, plain_congr h1]
theorem plain_iff {p q : List UInt8} : plainL p = plainL q ↔ Eqv p q := ⟨fun h => (plain_eqv p).symm.trans (h ▸ plain_eqv q), plain_congr⟩
theorem plain_plain (p : List UInt8) : plainL (plainL p) = plainL p := plain_congr (plain_eqv p)
theorem plain_top : ∀ p : List UInt8, plainL p ≠ [] → co p ((plainL p).length - 1) ≠ 0
  | [], h => absurd rfl h
  | a :: p, h => by
    rw [plainL] at h ⊢
    split
    · next hc => rw [if_pos hc] at h; exact absurd rfl h
    · next hc =>
      by_cases hp : plainL p = []
      · rw [hp]
        exact fun e => hc ⟨hp, e⟩
      · have ih := plain_top p hp
        have hl : 0 < (plainL p).length := List.length_pos_iff.2 hp
        rw [List.length_cons, Nat.add_sub_cancel]
        have e : (plainL p).length = ((plainL p).length - 1) + 1 := by omega
        rw [e, co_succ]
        exact ih
theorem plain_ge (p : List UInt8) (k : Nat) (h : (plainL p).length ≤ k) : co p k = 0 := by rw [← plain_eqv p k, co_ge _ _ h]
theorem plain_le_iff (p : List UInt8) (n : Nat) : (plainL p).length ≤ n ↔ ∀ k, n ≤ k → co p k = 0 := by
  constructor
  · intro h k hk
    exact plain_ge p k (by omega)
  · intro h
    rcases Nat.lt_or_ge n (plainL p).length with hlt | hge
    · exact absurd (h ((plainL p).length - 1) (by omega)) (plain_top p (by intro e; rw [e] at hlt; simp at hlt))
    · exact hge
theorem plain_len (p : List UInt8) : (plainL p).length ≤ p.length := (plain_le_iff p _).2 fun k hk => co_ge p k hk
/-- The plain form is the beginning, up to the last one that isn't 0. -/
theorem plain_take (p : List UInt8) (n : Nat) (hn : n ≤ p.length) (hz : ∀ k, n ≤ k → co p k = 0) (ht : n = 0 ∨ co p (n - 1) ≠ 0) : plainL p = p.take n := by
  have hle := (plain_le_iff p n).2 hz
  have hl : (plainL p).length = n := by
    rcases ht with rfl | ht
    · omega
    · rcases Nat.lt_or_ge (plainL p).length n with h | h
      · exact absurd (plain_ge p (n - 1) (by omega)) ht
      · omega
  apply List.ext_getElem
  · rw [hl, List.length_take]
    omega
  · intro i h1 h2
    have e := plain_eqv p i
    have h3 : i < p.length := by rw [List.length_take] at h2; omega
    rw [co_lt _ _ h1, co_lt _ _ h3] at e
    rw [List.getElem_take]
    exact e
theorem plain_of_top (p : List UInt8) (h : p = [] ∨ co p (p.length - 1) ≠ 0) : plainL p = p := by
  have := plain_take p p.length (Nat.le_refl _) (fun k hk => co_ge p k hk) (by
    rcases h with rfl | h
    · exact .inl rfl
    · exact .inr h)
  rwa [List.take_length] at this

/-! ### Degrees of products -/
theorem addL_length : ∀ p q : List UInt8, (addL p q).length = max p.length q.length
  | [], q => by simp [addL]
  | a :: p, [] => by simp [addL]
  | a :: p, b :: q => by
    have := addL_length p q
    simp only [addL, List.length_cons, this]
    omega
theorem mulL_length : ∀ (p q : List UInt8), p ≠ [] → q ≠ [] → (mulL p q).length = p.length + q.length - 1
  | [], q, h, _ => absurd rfl h
  | [a], q, _, hq => by
    have : 0 < q.length := List.length_pos_iff.2 hq
    simp [mulL, addL_length, scaleL]
    omega
  | a :: b :: p, q, _, hq => by
    have ih := mulL_length (b :: p) q (by simp) hq
    have : 0 < q.length := List.length_pos_iff.2 hq
    rw [mulL, addL_length, scaleL, List.length_map, List.length_cons, ih]
    simp only [List.length_cons]
    omega
theorem mulL_top : ∀ (p q : List UInt8), p ≠ [] → q ≠ [] → co (mulL p q) (p.length + q.length - 2) = mulB (co p (p.length - 1)) (co q (q.length - 1))
  | [], q, h, _ => absurd rfl h
  | [a], q, _, hq => by
    have : 0 < q.length := List.length_pos_iff.2 hq
    rw [mulL, mulL, co_add, co_scale, zero_cons, co_nil, add_zero, List.length_singleton, show 1 + q.length - 2 = q.length - 1 by omega]
    rfl
  | a :: b :: p, q, _, hq => by
    have ih := mulL_top (b :: p) q (by simp) hq
    have : 0 < q.length := List.length_pos_iff.2 hq
    have e : (a :: b :: p).length + q.length - 2 = ((b :: p).length + q.length - 2) + 1 := by simp only [List.length_cons]; omega
    rw [mulL, co_add, co_scale, e, co_succ, ih, co_ge q _ (by simp only [List.length_cons]; omega), mul_zero, zero_add]
    rfl
theorem mul_plain_len (p q : List UInt8) (hp : plainL p ≠ []) (hq : plainL q ≠ []) : (plainL (mulL p q)).length = (plainL p).length + (plainL q).length - 1 := by
  have h1 : 0 < (plainL p).length := List.length_pos_iff.2 hp
  have h2 : 0 < (plainL q).length := List.length_pos_iff.2 hq
  have e : plainL (mulL p q) = plainL (mulL (plainL p) (plainL q)) := plain_congr (mul_congr (plain_eqv p).symm (plain_eqv q).symm)
  have hlen := mulL_length _ _ hp hq
  have htop := mulL_top _ _ hp hq
  have hn : co (mulL (plainL p) (plainL q)) ((plainL p).length + (plainL q).length - 2) ≠ 0 := by
    rw [htop, plain_eqv p, plain_eqv q]
    exact mul_ne _ _ (plain_top p hp) (plain_top q hq)
  rw [e, plain_of_top _ (.inr (by rw [hlen, show (plainL p).length + (plainL q).length - 1 - 1 = (plainL p).length + (plainL q).length - 2 by omega]; exact hn)), hlen]
theorem mul_plain_nil {p q : List UInt8} (h : plainL (mulL p q) = []) : plainL p = [] ∨ plainL q = [] := by
  by_cases hp : plainL p = []
  · exact .inl hp
  · by_cases hq : plainL q = []
    · exact .inr hq
    · have := mul_plain_len p q hp hq
      rw [h] at this
      have h1 : 0 < (plainL p).length := List.length_pos_iff.2 hp
      have h2 : 0 < (plainL q).length := List.length_pos_iff.2 hq
      simp at this
      omega

/-! ### Division -/
/-- So often is q in p, and that is left. -/
def IsQuo (p q a r : List UInt8) : Prop := Eqv (addL (mulL a q) r) p ∧ (plainL r).length < (plainL q).length
theorem plain_add_len (p q : List UInt8) : (plainL (addL p q)).length ≤ max (plainL p).length (plainL q).length :=
  (plain_le_iff _ _).2 fun k hk => by rw [co_add, plain_ge p k (by omega), plain_ge q k (by omega), add_zero]
theorem add_cancel {p q : List UInt8} (h : Eqv (addL p q) []) : Eqv p q := fun k => by
  have := h k
  rw [co_add, co_nil] at this
  have e : addB (addB (co p k) (co q k)) (co q k) = addB 0 (co q k) := by rw [this]
  rwa [add_assoc, add_self, add_zero, zero_add] at e
theorem quo_unique {p q a r b s : List UInt8} (h : IsQuo p q a r) (g : IsQuo p q b s) : Eqv a b ∧ Eqv r s := by
  have hq : plainL q ≠ [] := by
    intro e
    have := h.2
    rw [e] at this
    simp at this
  have e1 : Eqv (addL (addL (mulL a q) r) (addL (mulL b q) s)) [] := (add_congr h.1 g.1).trans (addL_self p)
  have e2 : Eqv (addL (mulL (addL a b) q) (addL r s)) [] := ((add_congr (mulL_add_left a b q) (Eqv.refl _)).trans (addL_four _ _ _ _)).trans e1
  have e3 : Eqv (mulL (addL a b) q) (addL r s) := add_cancel e2
  have hab : plainL (addL a b) = [] := by
    by_cases hn : plainL (addL a b) = []
    · exact hn
    · have h1 := mul_plain_len _ _ hn hq
      rw [plain_congr e3] at h1
      have h2 := plain_add_len r s
      have h3 := h.2
      have h4 := g.2
      have h5 : 0 < (plainL (addL a b)).length := List.length_pos_iff.2 hn
      omega
  have e4 : Eqv (addL a b) [] := (plain_eqv _).symm.trans (by rw [hab]; exact Eqv.refl _)
  refine ⟨add_cancel e4, ?_⟩
  have e5 : Eqv (mulL (addL a b) q) [] := (mul_congr e4 (Eqv.refl q)).trans (Eqv.refl _)
  exact add_cancel (e3.symm.trans e5)

/-! ### Slopes -/
def slopeL : List UInt8 → List UInt8
  | [] => []
  | _ :: p => addL p (0 :: slopeL p)
theorem co_slope : ∀ (p : List UInt8) (k : Nat), co (slopeL p) k = if k % 2 = 0 then co p (k + 1) else 0
  | [], k => by rw [slopeL, co_nil, co_nil]; split <;> rfl
  | a :: p, 0 => by
    rw [slopeL, co_add, co_zero, add_zero, co_succ]
    rfl
  | a :: p, k + 1 => by
    rw [slopeL, co_add, co_succ, co_slope p k, co_succ]
    by_cases h : k % 2 = 0
    · rw [if_pos h, if_neg (by omega), add_self]
    · rw [if_neg h, if_pos (by omega), add_zero]
theorem slope_congr {p q : List UInt8} (h : Eqv p q) : Eqv (slopeL p) (slopeL q) := fun k => by rw [co_slope, co_slope, h (k + 1)]
theorem slope_add (p q : List UInt8) : Eqv (slopeL (addL p q)) (addL (slopeL p) (slopeL q)) := fun k => by
  rw [co_slope, co_add, co_add, co_slope, co_slope]
  split
  · rfl
  · rw [add_zero]
theorem slope_scale (a : UInt8) (p : List UInt8) : Eqv (slopeL (scaleL a p)) (scaleL a (slopeL p)) := fun k => by
  rw [co_slope, co_scale, co_scale, co_slope]
  split
  · rfl
  · rw [mul_zero]
theorem slope_mul : ∀ p q : List UInt8, Eqv (slopeL (mulL p q)) (addL (mulL (slopeL p) q) (mulL p (slopeL q)))
  | [], q => Eqv.refl _
  | a :: p, q => by
    have ih := slope_mul p q
    have l1 : Eqv (slopeL (mulL (a :: p) q)) (addL (scaleL a (slopeL q)) (addL (mulL p q) (0 :: addL (mulL (slopeL p) q) (mulL p (slopeL q))))) := by
      rw [mulL]
      refine (slope_add _ _).trans (add_congr (slope_scale a q) ?_)
      rw [slopeL]
      exact add_congr (Eqv.refl _) (ih.cons 0)
    have l2 : Eqv (mulL (slopeL (a :: p)) q) (addL (mulL p q) (0 :: mulL (slopeL p) q)) := by
      rw [slopeL]
      exact (mulL_add_left _ _ _).trans (add_congr (Eqv.refl _) (mulL_shift_left _ _))
    refine l1.trans (Eqv.trans ?_ (add_congr l2.symm (Eqv.refl _)))
    rw [mulL]
    refine (add_congr (Eqv.refl _) (add_congr (Eqv.refl _) (shift_add _ _))).trans (fun k => ?_)
    simp only [co_add]
    unfold addB
    ac_rfl
end Go.Proofs.Yteppocjgodmpdaa
/-
  Worlds in which all but one block lies as it lay; a row of cells in a new block (no program is named here). No conditions but those typed.
-/
namespace Go.Proofs.Yteppocjgodmpdaa
set_option maxRecDepth 100000
open Go.RowKit
set_option linter.unusedSimpArgs false
set_option linter.unusedVariables false

/-! ### All but one block lies as it lay -/
structure Only (g : Nat) (w w' : World) : Prop where
  below : Below g w w'
  other : ∀ b, b ≠ g → b < w.heap.size → w'.heap[b]? = w.heap[b]?
theorem Only.refl (g : Nat) (w : World) : Only g w w := ⟨Below.refl _ _, fun _ _ _ => rfl⟩
theorem Only.trans {g : Nat} {a b c : World} (h : Only g a b) (k : Only g b c) : Only g a c :=
  ⟨h.below.trans k.below, fun x hx hl => (k.other x hx (Nat.lt_of_lt_of_le hl h.below.size)).trans (h.other x hx hl)⟩
theorem Only.drew {g : Nat} {a w : World} (h : Only g a w) : Only g a w.drew := ⟨h.below.drew, h.other⟩
theorem Only.setCell {g : Nat} {a w : World} (h : Only g a w) (i : Nat) (v : Value) : Only g a (w.setCell ⟨g, i, none⟩ v) :=
  ⟨h.below.setCell (p := ⟨g, i, none⟩) (Nat.le_refl _) v, fun b hb hl => (Below.heap_setCell w ⟨g, i, none⟩ v b hb).trans (h.other b hb hl)⟩
theorem Only.later {g : Nat} {w w' : World} (h : Below w.heap.size w w') (hg : g ≤ w.heap.size) : Only g w w' := ⟨h.mono hg, fun b _ hl => h.block b hl⟩
theorem Only.fresh {g : Nat} {w w' : World} (h : Only g w w') (hg : w.heap.size ≤ g) : Below w.heap.size w w' := h.below.mono hg
theorem Rd.only {α : Type} {f : α → Value} {g : Nat} {w w' : World} {A : Option Addr} {l : List α} (h : Rd f w A l) (k : Only g w w') (hA : l ≠ [] → ∀ a, A = some a → a.block ≠ g) : Rd f w' A l := fun hn => by
  obtain ⟨b, o, rfl, hc⟩ := h hn
  refine ⟨b, o, rfl, fun i hi => ?_⟩
  have h1 := hc i hi
  exact (World.cell?_of_block (w := w) (a := ⟨b, o + i, none⟩) (k.other b (hA hn _ rfl) (World.block_lt_of_cell? w _ h1))).trans h1
theorem Rd.off {α : Type} {f : α → Value} {w : World} {A : Option Addr} {l : List α} (h : Rd f w A l) : l ≠ [] → ∀ a, A = some a → a.block < w.heap.size := fun hn a ha => by
  obtain ⟨b, o, e1, hcell⟩ := h hn
  rw [ha] at e1
  injection e1 with e1
  subst e1
  exact World.block_lt_of_cell? w _ (hcell 0 (List.length_pos_iff.2 hn))
theorem Rd.apart {α : Type} {f : α → Value} {w : World} {A : Option Addr} {l : List α} (h : Rd f w A l) {g : Nat} (hg : w.heap.size ≤ g) : l ≠ [] → ∀ a, A = some a → a.block ≠ g := fun hn a ha => by
  have := h.off hn a ha
  omega
theorem Boxed.only {g q : Nat} {w w' : World} {t : TypeId} {v : Value} (h : Boxed w q t v) (k : Only g w w') (hq : q ≠ g) : Boxed w' q t v := (k.other q hq h.lt).trans h
theorem Only.setRow {g : Nat} {a w : World} (h : Only g a w) (cs : Array Value) : Only g a (w.setRow g cs) :=
  ⟨below_setRow h.below (Nat.le_refl _) cs, fun b hb hl => (Go.setRow_other w g b cs hb).trans (h.other b hb hl)⟩
theorem Row.only {g q : Nat} {w w' : World} {t : TypeId} {l : List Value} (h : Row w q t l) (k : Only g w w') (hq : q ≠ g) : Row w' q t l := (k.other q hq h.lt).trans h
theorem box_of (w : World) (ty : TypeId) (l : List Value) (cs : Array Value) (h : cs = l.toArray) : Row (w.alloc (.cells cs ty)) w.heap.size ty l ∧ Below w.heap.size w (w.alloc (.cells cs ty)) := ⟨Row.new w ty _ _ h, below_new (Below.refl _ _) _⟩
end Go.Proofs.Yteppocjgodmpdaa
