/-
  Uses in memory: a slice of structs of three numbers read as a list; kept, cut, its cells one by one. No conditions but those typed.
-/
import Derived.Test.YteljklkgdejhpaaGreatDoorQL3
import Derived.Maps.AppendAt
import Derived.Test.YteljklkgdejhpaaGreatDoorRows
import Derived.WalkKit
import Derived.WalkSpells
import Derived.Lib.Hide
import Derived.LoopTactic
import Derived.Deep.DeepCutAuto
import Derived.Laws.StructEq
import Derived.Lib.AppendZerosOnto
import Derived.Laws.CopyRow
import Derived.Lib.SliceRun
import Derived.Lib.Overlaps
import Derived.Laws.Externs
set_option linter.unusedSimpArgs false
set_option linter.unusedVariables false
set_option maxRecDepth 100000
set_option maxHeartbeats 2000000
namespace Go.Proofs.YteljklkgdejhpaaGreatDoor
open Go.RowKit
def vNU (n : Nat) : Value := .int .u64 (n : Int)
def zes (g : Us) : List Value := [vNU g.1, vNU g.2.1, vNU g.2.2]
def aggU (g : Us) : Value := .agg #[vNU g.1, vNU g.2.1, vNU g.2.2]
def zar (l : List Us) : List Value := l.flatMap zes
def RdU (w : World) (A : Option Addr) (l : List Us) : Prop :=
 l ≠ [] → ∃ b o, A = some ⟨b, o, none⟩ ∧ ∀ i (h : i < l.length), w.cell? ⟨b, o + i * 3, none⟩ = some (vNU l[i].1) ∧ w.cell? ⟨b, o + i * 3 + 1, none⟩ = some (vNU l[i].2.1) ∧ w.cell? ⟨b, o + i * 3 + 2, none⟩ = some (vNU l[i].2.2)
theorem zay : ∀ l : List Us, (zar l).length = l.length * 3
 | [] => rfl
 | x :: l => by
  have := zay l
  unfold zar at *
  rw [List.flatMap_cons, List.length_append, this, List.length_cons]
  simp [zes]
  omega
theorem zcL : ∀ (l : List Us) (i : Nat) (h : i < l.length), (zar l)[i * 3]? = some (vNU l[i].1) ∧ (zar l)[i * 3 + 1]? = some (vNU l[i].2.1) ∧ (zar l)[i * 3 + 2]? = some (vNU l[i].2.2)
 | x :: l, 0, _ => ⟨rfl, rfl, rfl⟩
 | x :: l, i + 1, h => by
  have ih := zcL l i (by simpa using h)
  have e : zar (x :: l) = vNU x.1 :: vNU x.2.1 :: vNU x.2.2 :: zar l := rfl
  rw [e, show (i + 1) * 3 = i * 3 + 1 + 1 + 1 by omega]
  simp only [List.getElem?_cons_succ]
  exact ih
theorem zcg (l m : List Us) : zar (l ++ m) = zar l ++ zar m := by unfold zar; rw [List.flatMap_append]
theorem zeb : ∀ (l : List Us), ∀ u ∈ zar l, u.oneCell' = true := fun l u hu => by
 obtain ⟨x, _, hx⟩ := List.mem_flatMap.1 hu
 simp [zes, vNU] at hx
 rcases hx with rfl | rfl | rfl <;> rfl
section
variable {w w' : World} {A : Option Addr} {l : List Us}
theorem RdU.nil : RdU w A [] := fun h => absurd rfl h
theorem RdU.at (h : RdU w A l) {k : Nat} (hk : k < l.length) : ∃ b o, A = some ⟨b, o, none⟩ ∧ b < w.heap.size ∧ ∀ i (h : i < l.length), w.cell? ⟨b, o + i * 3, none⟩ = some (vNU l[i].1) ∧ w.cell? ⟨b, o + i * 3 + 1, none⟩ = some (vNU l[i].2.1) ∧ w.cell? ⟨b, o + i * 3 + 2, none⟩ = some (vNU l[i].2.2) := by
 obtain ⟨b, o, e, hc⟩ := h (by rintro rfl; simp at hk)
 exact ⟨b, o, e, World.block_lt_of_cell? w _ (hc k hk).1, hc⟩
theorem RdU.keep (h : RdU w A l) (hb : Below w.heap.size w w') : RdU w' A l := fun hn => by
 obtain ⟨b, o, e, hc⟩ := h hn
 refine ⟨b, o, e, fun i hi => ?_⟩
 obtain ⟨h0, h1, h2⟩ := hc i hi
 have hlt := World.block_lt_of_cell? w _ h0
 exact ⟨(hb.cell (p := ⟨b, o + i * 3, none⟩) hlt).trans h0, (hb.cell (p := ⟨b, o + i * 3 + 1, none⟩) hlt).trans h1, (hb.cell (p := ⟨b, o + i * 3 + 2, none⟩) hlt).trans h2⟩
theorem RdU.range {b o : Nat} (h : RdU w (some ⟨b, o, none⟩) l) : ∀ j u, (zar l)[j]? = some u → w.cell? ((⟨b, o, none⟩ : Addr).add j) = some u := fun j u hu => by
 have hj : j < l.length * 3 := by
  rw [← zay]
  exact (List.getElem?_eq_some_iff.1 hu).1
 have hi : j / 3 < l.length := by omega
 obtain ⟨b', o', e, hc⟩ := h (by rintro rfl; simp at hi)
 injection e with e
 injection e with e1 e2 _
 subst e1 e2
 obtain ⟨h0, h1, h2⟩ := hc (j / 3) hi
 obtain ⟨g0, g1, g2⟩ := zcL l (j / 3) hi
 have e1 : (⟨b, o, none⟩ : Addr).add j = ⟨b, o + j, none⟩ := by unfold Addr.add; split <;> simp_all
 rw [e1]
 have h3 : j % 3 = 0 ∨ j % 3 = 1 ∨ j % 3 = 2 := by omega
 rcases h3 with hp | hp | hp
 ·have e2 : j / 3 * 3 = j := by omega
  rw [e2] at h0 g0
  rw [h0, ← g0, hu]
 ·have e2 : j / 3 * 3 + 1 = j := by omega
  rw [Nat.add_assoc, e2] at h1
  rw [e2] at g1
  rw [h1, ← g1, hu]
 ·have e2 : j / 3 * 3 + 2 = j := by omega
  rw [Nat.add_assoc, e2] at h2
  rw [e2] at g2
  rw [h2, ← g2, hu]
theorem RdU.pair (h : RdU w A l) {k : Nat} (hk : k < l.length) : ∃ b o, A = some ⟨b, o, none⟩ ∧ b < w.heap.size ∧ w.rangeAt b (o + k * 3) (zes l[k]) ∧ w.cell? ⟨b, o + k * 3, none⟩ = some (vNU l[k].1) ∧ w.cell? ⟨b, o + k * 3 + 1, none⟩ = some (vNU l[k].2.1) ∧ w.cell? ⟨b, o + k * 3 + 2, none⟩ = some (vNU l[k].2.2) := by
 obtain ⟨b, o, e, hb, hc⟩ := h.at hk
 obtain ⟨h0, h1, h2⟩ := hc k hk
 refine ⟨b, o, e, hb, fun j u hu => ?_, h0, h1, h2⟩
 match j, hu with
 | 0, hu => injection hu with hu; subst hu; exact h0
 | 1, hu => injection hu with hu; subst hu; exact h1
 | 2, hu => injection hu with hu; subst hu; exact h2
theorem RdU.own {base : Nat} {e : TypeId} {n c : Nat} (h : w.ownsRow base e 3 (.slice A n c) n (zar l)) : RdU w A l := fun hn => by
 have hl : l.length = n := by
  have := h.1
  rw [zay] at this
  omega
 have hpos : 0 < n := by
  rcases Nat.eq_zero_or_pos n with h0 | h0
  ·exact absurd (List.eq_nil_of_length_eq_zero (by omega)) hn
  ·exact h0
 obtain ⟨g, cap, hv, _, hlt⟩ := h.form hpos
 have hA : A = some ⟨g, 0, none⟩ := by injection hv
 subst hA
 refine ⟨g, 0, rfl, fun i hi => ?_⟩
 obtain ⟨g0, g1, g2⟩ := zcL l i hi
 have h0 := h.cells (g := g) rfl _ _ g0
 have h1 := h.cells (g := g) rfl _ _ g1
 have h2 := h.cells (g := g) rfl _ _ g2
 have e1 : ∀ j, (⟨g, 0, none⟩ : Addr).add j = ⟨g, 0 + j, none⟩ := fun j => by unfold Addr.add; split <;> simp_all
 rw [e1] at h0 h1 h2
 exact ⟨h0, h1, h2⟩
theorem zcM {base : Nat} {e : TypeId} {v : Value} (h : w.ownsRow base e 3 v l.length (zar l)) : ∃ A cap, v = .slice A l.length cap ∧ l.length ≤ cap ∧ RdU w A l ∧ ∀ a, A = some a → base ≤ a.block := by
 rcases h.2 with ⟨rfl, h0⟩ | ⟨g, cap, cur, rfl, hg, _, hc, _⟩
 ·have hl : l = [] := List.eq_nil_of_length_eq_zero h0
  subst hl
  exact ⟨none, 0, rfl, Nat.le_refl _, RdU.nil, fun a h => by cases h⟩
 ·exact ⟨_, cap, rfl, hc, RdU.own h, fun a ha => by injection ha with ha; subst ha; exact hg⟩
theorem zaT {base : Nat} {e : TypeId} {v : Value} {n : Nat} {xs : List Value} (h : w.ownsRow base e 3 v n xs) (hh : ∀ b, base ≤ b → b < w.heap.size → w'.heap[b]? = w.heap[b]?) : w'.ownsRow base e 3 v n xs := by
 refine ⟨h.1, ?_⟩
 rcases h.2 with h0 | ⟨g, cap, cur, hv, hg, hc, r⟩
 ·exact .inl h0
 ·exact .inr ⟨g, cap, cur, hv, hg, (hh g hg (Array.getElem?_eq_some_iff.1 hc).1).trans hc, r⟩
theorem zbh {base : Nat} {e : TypeId} {v : Value} {n : Nat} {xs : List Value} (h : w.ownsRow base e 3 v n xs) (hb : Below w.heap.size w w') : w'.ownsRow base e 3 v n xs := zaT h (fun b _ hb' => hb.block b hb')
theorem zdy {base b' : Nat} {e : TypeId} {v : Value} {n : Nat} {xs : List Value} (h : w.ownsRow base e 3 v n xs) (hb : b' ≤ base) : w.ownsRow b' e 3 v n xs :=
 ⟨h.1, h.2.imp id fun ⟨g, cap, cur, h1, h2, h3⟩ => ⟨g, cap, cur, h1, Nat.le_trans hb h2, h3⟩⟩
theorem Row.use {g : Nat} {t : TypeId} {x : Us} (h : Row w g t (zes x)) : w.cell? ⟨g, 0, none⟩ = some (vNU x.1) ∧ w.cell? ⟨g, 1, none⟩ = some (vNU x.2.1) ∧ w.cell? ⟨g, 2, none⟩ = some (vNU x.2.2) := ⟨h.cell rfl, h.cell rfl, h.cell rfl⟩
end
theorem zmx (g : Us) : ∀ v ∈ zes g, v.oneCell' = true := fun v hv => by
 simp [zes, vNU] at hv
 rcases hv with rfl | rfl | rfl <;> rfl
section
variable {P : Program} (w : World)
theorem zet (base : Nat) (t ty e : TypeId) (i : TypeInfo) (ht : P.underlying t = some (.slice e)) (hi : P.info? e = some i)
  (v : Value) (n : Nat) (xs : List Value) (hown : w.ownsRow base e 3 v n xs) (c : Nat) : (Builtin.append_ #[t, t] ty #[v, .slice none 0 c]).run P w = .ok v w := by
 rcases hown.2 with ⟨rfl, rfl⟩ | ⟨g, cap, cur, rfl, _, _, hnc, _⟩
 ·simp [Builtin.append_, run_underlying ht, sizeOf, typeInfo, hi, Builtin.lenOf, Builtin.firstCells]
 ·simp [Builtin.append_, run_underlying ht, sizeOf, typeInfo, hi, Builtin.lenOf, Builtin.firstCells, hnc, storeCells]
theorem zgN (base : Nat) (t ty e : TypeId) (i : TypeInfo) (z : Value) (bytes : Nat) (ht : P.underlying t = some (.slice e)) (hi : P.info? e = some i) (hz : i.zero = some z)
  (hsize : i.size = 3) (hby : i.bytes = bytes) (hzs : z.cells.size = 3) (v : Value) (n : Nat) (xs : List Value) (hown : w.ownsRow base e 3 v n xs)
  (A : Option Addr) (l : List Us) (c : Nat) (hr : RdU w A l)
  (h63 : n + l.length ≤ maxLen) (hbytes : (n + l.length) * bytes ≤ 140737488355328) (hbase : base ≤ w.heap.size) :
  ∃ v' w', (Builtin.append_ #[t, t] ty #[v, .slice A l.length c]).run P w = .ok v' w' ∧ w'.ownsRow base e 3 v' (n + l.length) (xs ++ zar l) ∧ w.grownBy w' v.ownBlock ∧ (v'.ownBlock = v.ownBlock ∨ v'.ownBlock = some w.heap.size) := by
 by_cases hl : l = []
 ·subst hl
  cases A with
  | none => exact ⟨v, w, zet w base t ty e i ht hi v n xs hown c, by simpa [zar] using hown, ⟨rfl, rfl, rfl, Nat.le_refl _, fun _ _ _ => rfl⟩, .inl rfl⟩
  | some ad =>
   obtain ⟨v', w', hrun, h2, h3, _, h4⟩ := run_append_own_at (P := P) w base t ty e i z 3 bytes ht hi hz hsize hby hzs (by omega) v n xs hown ad 0 c [] rfl (fun j u h => by simp at h) (fun u h => by simp at h) h63 hbytes hbase
   exact ⟨v', w', hrun, h2, h3, h4⟩
 ·obtain ⟨b, o, rfl, _⟩ := hr hl
  obtain ⟨v', w', hrun, h2, h3, _, h4⟩ := run_append_own_at (P := P) w base t ty e i z 3 bytes ht hi hz hsize hby hzs (by omega) v n xs hown ⟨b, o, none⟩ l.length c (zar l) (zay l) hr.range (zeb l) h63 hbytes hbase
  exact ⟨v', w', hrun, h2, h3, h4⟩
theorem zeO {o : Oper} {a : Act} {K : Act → World → Prop} {Q : Exit → Act → World → Prop} (s x : Operand) (t : TypeId)
  (ho : o.op = .call { callee := .builtin .append, args := #[s, x], argTypes := #[t, t] })
  (base : Nat) (e : TypeId) (i : TypeInfo) (z : Value) (bytes : Nat) (ht : P.underlying t = some (.slice e)) (hi : P.info? e = some i) (hz : i.zero = some z)
  (hsize : i.size = 3) (hby : i.bytes = bytes) (hzs : z.cells.size = 3) (v : Value) (n : Nat) (xs : List Value) (hs : a.eval s = v) (hown : w.ownsRow base e 3 v n xs)
  (A : Option Addr) (l : List Us) (c : Nat) (hx : a.eval x = .slice A l.length c) (hr : RdU w A l)
  (h63 : n + l.length ≤ maxLen) (hbytes : (n + l.length) * bytes ≤ 140737488355328) (hbase : base ≤ w.heap.size)
  (h : ∀ v' w', w'.ownsRow base e 3 v' (n + l.length) (xs ++ zar l) → w.grownBy w' v.ownBlock → (v'.ownBlock = v.ownBlock ∨ v'.ownBlock = some w.heap.size) → K (a.put o.dst v') w') : o.wp P a w K Q := by
 obtain ⟨v', w', hr, h2, h3, h4⟩ := zgN (P := P) w base t o.type e i z bytes ht hi hz hsize hby hzs v n xs hown A l c hr h63 hbytes hbase
 unfold Oper.wp execOp
 simp only [ho, resolve, invoke, builtin, Sem.run_bind, Sem.run_pure, Result.andThen_ok, List.map_toArray, List.map_cons, List.map_nil, hs, hx, hr]
 exact h v' w' h2 h3 h4
theorem zbI {ops : Array Oper} {rest : List Oper} {o : Oper} {a : Act} {Q : Exit → Act → World → Prop} (hgd : o.guard = none) (s x : Operand) (t : TypeId)
  (ho : o.op = .call { callee := .builtin .append, args := #[s, x], argTypes := #[t, t] })
  (base : Nat) (e : TypeId) (i : TypeInfo) (z : Value) (bytes : Nat) (ht : P.underlying t = some (.slice e)) (hi : P.info? e = some i) (hz : i.zero = some z)
  (hsize : i.size = 3) (hby : i.bytes = bytes) (hzs : z.cells.size = 3) (v : Value) (n : Nat) (xs : List Value) (hs : a.eval s = v) (hown : w.ownsRow base e 3 v n xs)
  (A : Option Addr) (l : List Us) (c : Nat) (hx : a.eval x = .slice A l.length c) (hr : RdU w A l)
  (h63 : n + l.length ≤ maxLen) (hbytes : (n + l.length) * bytes ≤ 140737488355328) (hbase : base ≤ w.heap.size)
  (h : ∀ v' w', w'.ownsRow base e 3 v' (n + l.length) (xs ++ zar l) → w.grownBy w' v.ownBlock → (v'.ownBlock = v.ownBlock ∨ v'.ownBlock = some w.heap.size) → wpList P ops Q rest (a.put o.dst v') w') : wpList P ops Q (o :: rest) a w :=
 wpList_plain hgd fun _ hK => zeO w s x t ho base e i z bytes ht hi hz hsize hby hzs v n xs hs hown A l c hx hr h63 hbytes hbase fun v' w' h2 h3 h4 => hK _ _ (h v' w' h2 h3 h4)
end
def cmpN (a b : Nat) : Int := if a < b then -1 else if b < a then 1 else 0
theorem zmy (a : Nat) (w : World) : Calls Tryz.prog 156 #[.int .u64 (a : Int)] w fun e w' => e = .returned (.bool false) ∧ w = w' := by
 go_enter Tryz.func156, Tryz.ntmps156
 go_wp2_with fail
 go_ret
 exact ⟨rfl, rfl⟩
theorem zf6 (a b : Nat) (w : World) (ha : a < 18446744073709551616) (hb : b < 18446744073709551616) : Calls Tryz.prog 122 #[.int .u64 (a : Int), .int .u64 (b : Int)] w fun e w' => e = .returned (.int .i64 (cmpN a b)) ∧ w = w' := by
 go_enter Tryz.func122, Tryz.ntmps122
 go_wp2_with (go_at_call 156; refine (zmy _ _).mono ?_; rintro e w' ⟨rfl, rfl⟩)
 all_goals go_ret
 all_goals (unfold cmpN; refine ⟨?_, rfl⟩; (repeat' split) <;> first | rfl | omega)
theorem zmz (a b : Nat) : cmpN a b = cmpU a b := rfl
theorem zpd (x y z : Int) (g : Nat) (w : World) (t : TypeId) (hR : Row w g t [.int .i64 x, .int .i64 y, .int .i64 z]) : Calls Tryz.prog 121 #[.slice (some ⟨g, 0, none⟩) 3 3] w fun e w' => e = .returned (.int .i64 (if x ≠ 0 then x else if y ≠ 0 then y else z)) ∧ w = w' := by
 have c0 := hR.cell (i := 0) rfl
 have c1 := hR.cell (i := 1) rfl
 have c2 := hR.cell (i := 2) rfl
 by_cases hx : x = 0
 ·subst hx
  by_cases hy : y = 0
  ·subst hy
   by_cases hz : z = 0
   ·subst hz
    go_enter Tryz.func121, Tryz.ntmps121
    go_wp2_with fail
    refine wp_loop_rounds 4 ?_
    iterate 4 (rw [rounds_succ]; go_wp2)
    go_ret
    exact ⟨rfl, rfl⟩
   ·go_enter Tryz.func121, Tryz.ntmps121
    go_wp2_with fail
    refine wp_loop_rounds 4 ?_
    iterate 3 (rw [rounds_succ]; go_wp2)
    go_ret
    exact ⟨rfl, rfl⟩
  ·go_enter Tryz.func121, Tryz.ntmps121
   go_wp2_with fail
   refine wp_loop_rounds 4 ?_
   iterate 2 (rw [rounds_succ]; go_wp2)
   go_ret
   exact ⟨by simp [hy], rfl⟩
 ·go_enter Tryz.func121, Tryz.ntmps121
  go_wp2_with fail
  refine wp_loop_rounds 4 ?_
  rw [rounds_succ]
  go_wp2
  go_ret
  exact ⟨by simp [hx], rfl⟩
theorem zfe (a b : Us) (w : World) (ha : zcF a) (hb : zcF b) : Calls Tryz.prog 80 #[aggU a, aggU b] w fun e w' => e = .returned (.int .i64 (ordU a b)) ∧ Below w.heap.size w w' := by
 obtain ⟨a1, a2, a3⟩ := a
 obtain ⟨b1, b2, b3⟩ := b
 obtain ⟨ha1, ha2, ha3⟩ := ha
 obtain ⟨hb1, hb2, hb3⟩ := hb
 dsimp only at ha1 ha2 ha3 hb1 hb2 hb3
 obtain ⟨r, hr⟩ : ∃ r, ordU (a1, a2, a3) (b1, b2, b3) = r := ⟨_, rfl⟩
 rw [hr]
 have HX := Lib.hid hr
 clear hr
 unfold ordU at HX
 rw [← zmz, ← zmz, ← zmz] at HX
 unfold aggU vNU
 dsimp only at HX ⊢
 go_enter Tryz.func80, Tryz.ntmps80
 go_wp2_with fail
 have hR0 : Row (w.alloc (.cells #[.int .u64 (a1 : Int), .int .u64 (a2 : Int), .int .u64 (a3 : Int)] 57)) w.heap.size 57 [.int .u64 (a1 : Int), .int .u64 (a2 : Int), .int .u64 (a3 : Int)] := Row.new w _ _ _ rfl
 have hR1 : Row ((w.alloc (.cells #[.int .u64 (a1 : Int), .int .u64 (a2 : Int), .int .u64 (a3 : Int)] 57)).alloc (.cells #[.int .u64 (b1 : Int), .int .u64 (b2 : Int), .int .u64 (b3 : Int)] 57)) (w.heap.size + 1) 57 [.int .u64 (b1 : Int), .int .u64 (b2 : Int), .int .u64 (b3 : Int)] := Row.new_at _ _ (by simp) _ _ _ rfl
 replace hR0 := hR0.alloc (.cells #[.int .u64 (b1 : Int), .int .u64 (b2 : Int), .int .u64 (b3 : Int)] 57)
 have hB : Below w.heap.size w ((w.alloc (.cells #[.int .u64 (a1 : Int), .int .u64 (a2 : Int), .int .u64 (a3 : Int)] 57)).alloc (.cells #[.int .u64 (b1 : Int), .int .u64 (b2 : Int), .int .u64 (b3 : Int)] 57)) := zak (zak (Below.refl _ _) _) _
 generalize (w.alloc (.cells #[.int .u64 (a1 : Int), .int .u64 (a2 : Int), .int .u64 (a3 : Int)] 57)).alloc (.cells #[.int .u64 (b1 : Int), .int .u64 (b2 : Int), .int .u64 (b3 : Int)] 57) = w3 at hR0 hR1 hB ⊢
 have c0 : ∀ W, Below w3.heap.size w3 W → W.cell? ⟨w.heap.size, 0, none⟩ = some (.int .u64 (a1 : Int)) := fun W hW => (hR0.later hW).cell rfl
 have c1 : ∀ W, Below w3.heap.size w3 W → W.cell? ⟨w.heap.size, 1, none⟩ = some (.int .u64 (a2 : Int)) := fun W hW => (hR0.later hW).cell rfl
 have c2 : ∀ W, Below w3.heap.size w3 W → W.cell? ⟨w.heap.size, 2, none⟩ = some (.int .u64 (a3 : Int)) := fun W hW => (hR0.later hW).cell rfl
 have c3 : ∀ W, Below w3.heap.size w3 W → W.cell? ⟨w.heap.size + 1, 0, none⟩ = some (.int .u64 (b1 : Int)) := fun W hW => (hR1.later hW).cell rfl
 have c4 : ∀ W, Below w3.heap.size w3 W → W.cell? ⟨w.heap.size + 1, 1, none⟩ = some (.int .u64 (b2 : Int)) := fun W hW => (hR1.later hW).cell rfl
 have c5 : ∀ W, Below w3.heap.size w3 W → W.cell? ⟨w.heap.size + 1, 2, none⟩ = some (.int .u64 (b3 : Int)) := fun W hW => (hR1.later hW).cell rfl
 have hBase := (Below.refl w3.heap.size w3).drew
 refine zaw (.step 0 false (.step 1 false (.step 2 false (.step 3 false (.step 5 false (.step 6 false (.step 7 false (.step 8 false (.step 10 false (.step 11 false (.step 12 false (.step 13 false (.step 4 true (.step 9 true (.step 14 true (.step 15 true (.step 16 true (.step 17 false (.nil))))))))))))))))))) (by kernel_rfl) (by kernel_rfl) (by rfl) (by kernel_rfl) ?_
 iterate 12 (refine zae rfl (by rfl) (v := ?_) ?_ ?_; rotate_left 1; (intro W hW; have hW0 := zaa hBase hW; (try dsimp only at hW); go_simp <;> with_reducible rfl); simp only [List.getElem_toArray, List.getElem_cons_zero, List.getElem_cons_succ, Act.put, List.setIfInBounds_toArray, List.set_cons_zero, List.set_cons_succ])
 (refine zaI rfl (by rfl) (fun K hK => ?_); go_simp; (refine (zf6 a1 b1 _ ha1 hb1).mono ?_; rintro e₁ w4 ⟨rfl, rfl⟩; have hbx := Below.refl w3.drew.heap.size w3.drew); refine hK.out _ _ hbx ?_; clear hK K; replace hBase := zaa hBase hbx)
 (refine zaI rfl (by rfl) (fun K hK => ?_); go_simp; (refine (zf6 a2 b2 _ ha2 hb2).mono ?_; rintro e₁ w4 ⟨rfl, rfl⟩; have hbx := Below.refl w3.drew.heap.size w3.drew); refine hK.out _ _ hbx ?_; clear hK K; replace hBase := zaa hBase hbx)
 (refine zaI rfl (by rfl) (fun K hK => ?_); go_simp; (refine (zf6 a3 b3 _ ha3 hb3).mono ?_; rintro e₁ w4 ⟨rfl, rfl⟩; have hbx := Below.refl w3.drew.heap.size w3.drew); refine hK.out _ _ hbx ?_; clear hK K; replace hBase := zaa hBase hbx)
 generalize cmpN a1 b1 = x at HX ⊢
 generalize cmpN a2 b2 = y at HX ⊢
 generalize cmpN a3 b3 = z at HX ⊢
 have hR2 := Row.new w3.drew 3 [.int .i64 x, .int .i64 y, .int .i64 z] _ rfl
 (refine zaI rfl (by rfl) (fun K hK => ?_); go_simp; (have hbx := zak (Below.refl _ w3.drew) (.cells #[.int .i64 x, .int .i64 y, .int .i64 z] 3)); refine hK.out _ _ hbx ?_; clear hK K; replace hBase := zaa hBase hbx)
 have hor := zpd x y z _ _ _ hR2
 rw [HX.out] at hor
 (refine zaI rfl (by rfl) (fun K hK => ?_); go_simp; (refine hor.mono ?_; clear hor; rintro e₁ w4 ⟨rfl, rfl⟩; have hbx := Below.refl (w3.drew.alloc (.cells #[.int .i64 x, .int .i64 y, .int .i64 z] 3)).heap.size (w3.drew.alloc (.cells #[.int .i64 x, .int .i64 y, .int .i64 z] 3))); refine hK.out _ _ hbx ?_; clear hK K; replace hBase := zaa hBase hbx)
 iterate 1 (refine zae rfl (by rfl) (v := ?_) ?_ ?_; rotate_left 1; (intro W hW; have hW0 := zaa hBase hW; (try dsimp only at hW); go_simp <;> with_reducible rfl); simp only [List.getElem_toArray, List.getElem_cons_zero, List.getElem_cons_succ, Act.put, List.setIfInBounds_toArray, List.set_cons_zero, List.set_cons_succ])
 refine zal ?_
 go_wp2_with fail
 go_ret
 exact ⟨rfl, zaa hB hBase⟩
def zjt (g : Nat) : Value := .func (.func 120) #[] #[.pointer (some ⟨g, 0, none⟩)]
theorem zg3 (x : Us) (fl g : Nat) (w : World) (c1 : w.cell? ⟨g, 0, none⟩ = some (.int .u64 (fl : Int))) :
  Calls Tryz.prog 120 #[aggU x, .pointer (some ⟨g, 0, none⟩)] w fun e w' => e = .returned (.bool (decide (x.2.2 < fl))) ∧ Below w.heap.size w w' := by
 obtain ⟨x0, x1, x2⟩ := x
 unfold aggU vNU
 dsimp only
 have hR0 : Row (w.alloc (.cells #[.int .u64 (x0 : Int), .int .u64 (x1 : Int), .int .u64 (x2 : Int)] 57)) w.heap.size 57 [.int .u64 (x0 : Int), .int .u64 (x1 : Int), .int .u64 (x2 : Int)] := Row.new w _ _ _ rfl
 have hB0 := zak (Below.refl _ w) (.cells #[.int .u64 (x0 : Int), .int .u64 (x1 : Int), .int .u64 (x2 : Int)] 57)
 have d1 : (w.alloc (.cells #[.int .u64 (x0 : Int), .int .u64 (x1 : Int), .int .u64 (x2 : Int)] 57)).cell? ⟨g, 0, none⟩ = some (.int .u64 (fl : Int)) := (hB0.cell (p := ⟨g, 0, none⟩) (World.block_lt_of_cell? w _ c1)).trans c1
 have k2 : (w.alloc (.cells #[.int .u64 (x0 : Int), .int .u64 (x1 : Int), .int .u64 (x2 : Int)] 57)).cell? ⟨w.heap.size, 2, none⟩ = some (.int .u64 (x2 : Int)) := hR0.cell rfl
 clear hR0 c1
 go_enter Tryz.func120, Tryz.ntmps120
 go_upto_region 1 with fail
 generalize w.alloc (.cells #[.int .u64 (x0 : Int), .int .u64 (x1 : Int), .int .u64 (x2 : Int)] 57) = W at hB0 d1 k2 ⊢
 go_wp2_with fail
 go_ret
 exact ⟨by simp, hB0⟩
theorem zf7 (fl : Nat) (w : World) : Calls Tryz.prog 78 #[.int .u64 (fl : Int)] w fun e w' => ∃ g, e = .returned (zjt g) ∧ w.heap.size ≤ g ∧ w'.cell? ⟨g, 0, none⟩ = some (.int .u64 (fl : Int)) ∧ Below w.heap.size w w' := by
 have hR0 : Row (w.alloc (.cells #[.int .u64 (fl : Int)] 28)) w.heap.size 28 [.int .u64 (fl : Int)] := Row.new w _ _ _ rfl
 have hB0 := zak (Below.refl _ w) (.cells #[.int .u64 (fl : Int)] 28)
 go_enter Tryz.func78, Tryz.ntmps78
 go_wp2_with fail
 go_ret
 exact ⟨w.heap.size, rfl, Nat.le_refl _, hR0.cell rfl, hB0⟩
def IdxB (fl : Nat) (l : List Us) (v : Int) : Prop := (v = -1 ∧ ∀ u ∈ l, fl ≤ u.2.2) ∨ ∃ k : Nat, v = (k : Int) ∧ ∃ hk : k < l.length, ¬ fl ≤ l[k].2.2 ∧ ze8 fl l k
theorem zdd (l : List Us) (fl n c g : Nat) (A : Option Addr) (w : World) (HN : Hid (l.length = n)) (hr : RdU w A l) (hn : n ≤ 1000000000) (c1 : w.cell? ⟨g, 0, none⟩ = some (.int .u64 (fl : Int))) :
  Calls Tryz.prog 119 #[.slice A n c, .func (.func 120) #[] #[.pointer (some ⟨g, 0, none⟩)]] w fun e w' => (∃ v : Int, e = .returned (.int .i64 v) ∧ IdxB fl l v) ∧ Below w.heap.size w w' := by
 have hg1 := World.block_lt_of_cell? w _ c1
 have C1 : Hid (∀ W, Below w.heap.size w W → W.cell? ⟨g, 0, none⟩ = some (.int .u64 (fl : Int))) := fun W hW => (hW.cell (p := ⟨g, 0, none⟩) hg1).trans c1
 clear c1 hg1
 go_enter Tryz.func119, Tryz.ntmps119
 go_wp2_with fail
 go_loopw [8] (fun i wr => (∃ k : Nat, i = .int .i64 (k : Int) ∧ k ≤ n ∧ ze8 fl l k) ∧ Below w.heap.size w wr) (fun i _ => n - (intOf i).toNat)
 case atStart => exact ⟨⟨0, rfl, by omega, fun j _ hj => by omega⟩, Below.refl _ _⟩
 case round =>
  obtain ⟨⟨k, rfl, hk, hs⟩, hB⟩ := hrel
  have HS := Lib.hid hs
  have HB := Lib.hid hB
  by_cases hlt : k < n
  ·have hkl : k < l.length := by rw [HN.out]; exact hlt
   obtain ⟨b, o, rfl, hb, _, p0, p1, p2⟩ := hr.pair hkl
   have HT : Hid (fl ≤ l[k].2.2 → ze8 fl l (k + 1)) := fun h j hj hjk => by
    by_cases e : j = k
    ·subst e; exact h
    ·exact HS.out j hj (by omega)
   have HI : Hid (¬ fl ≤ l[k].2.2 → IdxB fl l (k : Int)) := fun h => .inr ⟨k, rfl, hkl, h, HS.out⟩
   generalize l[k] = x at p0 p1 p2 HT HI
   obtain ⟨x0, x1, x2⟩ := x
   unfold vNU at p0 p1 p2
   dsimp only at p0 p1 p2 HT HI
   replace p0 := (hB.cell (p := ⟨b, o + k * 3, none⟩) hb).trans p0
   replace p1 := (hB.cell (p := ⟨b, o + k * 3 + 1, none⟩) hb).trans p1
   replace p2 := (hB.cell (p := ⟨b, o + k * 3 + 2, none⟩) hb).trans p2
   have i2 : (0 : Int) ≤ (k : Int) := by omega
   have i3 : (k : Int) < (n : Int) := by omega
   clear hs hB
   go_wp2_with fail
   have hcl := zg3 (x0, x1, x2) fl g _ (C1.out wr HB.out)
   unfold aggU vNU at hcl
   refine hcl.mono ?_
   clear hcl
   rintro e w1 ⟨rfl, hb1⟩
   have HB2 := Lib.hid (zaa HB.out hb1)
   clear p0 p1 p2 hb1
   dsimp only
   by_cases hx : x2 < fl
   ·have hd : decide (x2 < fl) = true := decide_eq_true hx
    rw [hd]
    have HI2 := Lib.hid (HI.out (by omega))
    clear hd hx
    go_wp2_with fail
    go_ret
    exact ⟨⟨_, rfl, HI2.out⟩, HB2.out⟩
   ·have hd : decide (x2 < fl) = false := decide_eq_false hx
    rw [hd]
    have HT2 := Lib.hid (HT.out (by omega))
    clear hd hx
    go_wp2_with fail
    go_roundw
    case rel => exact ⟨⟨k + 1, by go_num, by omega, HT2.out⟩, HB2.out⟩
    case measure => simp [intOf]; omega
  ·have j1 : ¬ (k : Int) < (n : Int) := by omega
   have HA : Hid (∀ u ∈ l, fl ≤ u.2.2) := fun u hu => by
    obtain ⟨j, hj, rfl⟩ := List.getElem_of_mem hu
    exact HS.out j hj (by have := HN.out; omega)
   clear hs hB
   go_wp2_with fail
   go_ret
   exact ⟨⟨-1, rfl, .inl ⟨rfl, HA.out⟩⟩, HB.out⟩
theorem zff (l : List Us) (fl n c g : Nat) (A : Option Addr) (w : World) (HN : Hid (l.length = n)) (hr : RdU w A l) (hn : n ≤ 1000000000) (c1 : w.cell? ⟨g, 0, none⟩ = some (.int .u64 (fl : Int))) :
  Calls Tryz.prog 77 #[.slice A n c, .func (.func 120) #[] #[.pointer (some ⟨g, 0, none⟩)]] w fun e w' => e = .returned (.bool (l.any (fun u => decide (u.2.2 < fl)))) ∧ Below w.heap.size w w' := by
 have HIX := Lib.hid (zdd l fl n c g A w HN hr hn c1)
 clear c1
 go_enter Tryz.func77, Tryz.ntmps77
 go_wp2_with fail
 refine HIX.out.mono ?_
 rintro e w1 ⟨⟨v, rfl, hv⟩, hb⟩
 have HV : Hid (decide (0 ≤ v) = l.any (fun u => decide (u.2.2 < fl))) := by
  unfold Hid
  rcases hv with ⟨rfl, ha⟩ | ⟨k, rfl, hk, hlt, _⟩
  ·rw [zib.2 ha]
   rfl
  ·have : l.any (fun u => decide (u.2.2 < fl)) = true := List.any_eq_true.2 ⟨l[k], List.getElem_mem hk, decide_eq_true (by omega)⟩
   rw [this]
   exact decide_eq_true (by omega)
 clear hv
 go_wp2_with fail
 go_ret
 exact ⟨by rw [← HV.out]; rfl, hb⟩
theorem zju (l : List Us) (n c : Nat) (A : Option Addr) (w : World) (HN : Hid (l.length = n)) (hr : RdU w A l) (HF : Hid (fitU l)) (hn : n ≤ 1000000000) :
  Calls Tryz.prog 79 #[.slice A n c, .func (.func 80) #[] #[]] w fun e w' => e = .returned (.bool (zcY l)) ∧ Below w.heap.size w w' := by
 go_enter Tryz.func79, Tryz.ntmps79
 go_wp2_with fail
 go_loopw [5] (fun i wr => (∃ k : Nat, 1 ≤ k ∧ i = .int .i64 (k : Int) ∧ k ≤ max 1 n ∧ ∀ j (h : j + 1 < l.length), j + 1 < k → ltU l[j] l[j + 1] = true) ∧ Below w.heap.size w wr) (fun i _ => n - (intOf i).toNat)
 case atStart => exact ⟨⟨1, Nat.le_refl _, rfl, by omega, fun j _ hj => by omega⟩, Below.refl _ _⟩
 case round =>
  obtain ⟨⟨k, hk1, rfl, hk2, hs⟩, hB⟩ := hrel
  by_cases hlt : k < n
  ·obtain ⟨m, hm⟩ : ∃ m, m = k - 1 := ⟨_, rfl⟩
   have hw : IntKind.i64.wrap ((k : Int) - 1) = (m : Int) := by rw [IntKind.wrap_i64]; omega
   have hlen := HN.out
   have hka : k - 1 < l.length := by omega
   have hkb : k < l.length := by omega
   obtain ⟨b, o, rfl, hb, hcell⟩ := hr.at hkb
   obtain ⟨p0, p1, p2⟩ := hcell (k - 1) hka
   obtain ⟨q0, q1, q2⟩ := hcell k hkb
   have HP : Hid (zcF l[k - 1]) := HF.out _ (List.getElem_mem hka)
   have HQ : Hid (zcF l[k]) := HF.out _ (List.getElem_mem hkb)
   have HS : Hid (∀ j (h : j + 1 < l.length), j + 1 < k + 1 → (ltU l[k - 1] l[k] = true → ltU l[j] l[j + 1] = true)) := by
    intro j hj hjk h
    by_cases e : j + 1 = k
    ·subst e
     exact h
    ·exact hs j hj (by omega)
   have HE : Hid (ltU l[k - 1] l[k] = false → zcY l = false) := by
    intro h
    rw [Bool.eq_false_iff]
    intro h2
    have h3 := (zhB l).1 h2 (k - 1) (by omega)
    have e : k - 1 + 1 = k := by omega
    simp only [e] at h3
    rw [h] at h3
    cases h3
   generalize l[k - 1] = x at p0 p1 p2 HP HS HE
   generalize l[k] = y at q0 q1 q2 HQ HS HE
   obtain ⟨x0, x1, x2⟩ := x
   obtain ⟨y0, y1, y2⟩ := y
   rw [← hm] at p0 p1 p2
   have HM := Lib.hid hm
   unfold vNU at p0 p1 p2 q0 q1 q2
   dsimp only at p0 p1 p2 q0 q1 q2
   have d0 : ∀ W, Below wr.heap.size wr W → W.cell? ⟨b, o + m * 3, none⟩ = some (.int .u64 (x0 : Int)) := fun W hW => ((hB.trans (hW.mono hB.size)).cell (p := ⟨b, o + m * 3, none⟩) hb).trans p0
   have d1 : ∀ W, Below wr.heap.size wr W → W.cell? ⟨b, o + m * 3 + 1, none⟩ = some (.int .u64 (x1 : Int)) := fun W hW => ((hB.trans (hW.mono hB.size)).cell (p := ⟨b, o + m * 3 + 1, none⟩) hb).trans p1
   have d2 : ∀ W, Below wr.heap.size wr W → W.cell? ⟨b, o + m * 3 + 2, none⟩ = some (.int .u64 (x2 : Int)) := fun W hW => ((hB.trans (hW.mono hB.size)).cell (p := ⟨b, o + m * 3 + 2, none⟩) hb).trans p2
   have d3 : ∀ W, Below wr.heap.size wr W → W.cell? ⟨b, o + k * 3, none⟩ = some (.int .u64 (y0 : Int)) := fun W hW => ((hB.trans (hW.mono hB.size)).cell (p := ⟨b, o + k * 3, none⟩) hb).trans q0
   have d4 : ∀ W, Below wr.heap.size wr W → W.cell? ⟨b, o + k * 3 + 1, none⟩ = some (.int .u64 (y1 : Int)) := fun W hW => ((hB.trans (hW.mono hB.size)).cell (p := ⟨b, o + k * 3 + 1, none⟩) hb).trans q1
   have d5 : ∀ W, Below wr.heap.size wr W → W.cell? ⟨b, o + k * 3 + 2, none⟩ = some (.int .u64 (y2 : Int)) := fun W hW => ((hB.trans (hW.mono hB.size)).cell (p := ⟨b, o + k * 3 + 2, none⟩) hb).trans q2
   have i0 : (0 : Int) ≤ (m : Int) := by omega
   have i1 : (m : Int) < (n : Int) := by omega
   have i2 : (0 : Int) ≤ (k : Int) := by omega
   have i3 : (k : Int) < (n : Int) := by omega
   have HB := Lib.hid hB
   clear hcell hs p0 p1 p2 q0 q1 q2 hB hlen hm
   go_wp2_with fail
   have hBase := (Below.refl wr.heap.size wr).drew
   refine zaw (.step 0 false (.step 1 false (.step 2 false (.step 3 false (.step 4 false (.step 5 false (.step 6 false (.step 7 false (.step 8 false (.step 9 false (.step 10 true (.step 11 false (.nil))))))))))))) (by kernel_rfl) (by kernel_rfl) (by rfl) (by kernel_rfl) ?_
   iterate 10 (refine zae rfl (by rfl) (v := ?_) ?_ ?_; rotate_left 1; (intro W hW; have hW0 := zaa hBase hW; (try dsimp only at hW); go_simp <;> with_reducible rfl); simp only [List.getElem_toArray, List.getElem_cons_zero, List.getElem_cons_succ, Act.put, List.setIfInBounds_toArray, List.set_cons_zero, List.set_cons_succ])
   (refine zaI rfl (by rfl) (fun K hK => ?_); go_simp; (refine (zfe (x0, x1, x2) (y0, y1, y2) _ HP.out HQ.out).mono ?_; rintro e₁ w4 ⟨rfl, hbx⟩); refine hK.out _ _ hbx ?_; clear hK K; replace hBase := zaa hBase hbx)
   have hneg := zke (x0, x1, x2) (y0, y1, y2)
   generalize ordU (x0, x1, x2) (y0, y1, y2) = r at hneg ⊢
   by_cases hr0 : 0 ≤ r
   ·have hS : zcY l = false := HE.out (by rw [Bool.eq_false_iff]; intro h; have := hneg.2 h; omega)
    have HSR := Lib.hid hS
    clear hneg HS HE hS
    have hd : decide (0 ≤ r) = true := decide_eq_true hr0
    iterate 1 (refine zae rfl (by rfl) (v := ?_) ?_ ?_; rotate_left 1; (intro W hW; have hW0 := zaa hBase hW; (try dsimp only at hW); go_simp <;> with_reducible rfl); simp only [List.getElem_toArray, List.getElem_cons_zero, List.getElem_cons_succ, Act.put, List.setIfInBounds_toArray, List.set_cons_zero, List.set_cons_succ])
    refine zal ?_
    go_wp2_with fail
    go_ret
    exact ⟨by rw [HSR.out]; rfl, zaa HB.out hBase⟩
   ·have hL : ltU (x0, x1, x2) (y0, y1, y2) = true := hneg.1 (by omega)
    clear hneg
    have HB2 := Lib.hid (zaa HB.out hBase)
    have hd : decide (0 ≤ r) = false := decide_eq_false hr0
    iterate 1 (refine zae rfl (by rfl) (v := ?_) ?_ ?_; rotate_left 1; (intro W hW; have hW0 := zaa hBase hW; (try dsimp only at hW); go_simp <;> with_reducible rfl); simp only [List.getElem_toArray, List.getElem_cons_zero, List.getElem_cons_succ, Act.put, List.setIfInBounds_toArray, List.set_cons_zero, List.set_cons_succ])
    refine zal ?_
    go_wp2_with fail
    go_roundw
    case rel => exact ⟨⟨k + 1, by omega, by go_num, by omega, fun j hj hjk => HS.out j hj hjk hL⟩, HB2.out⟩
    case measure => simp [intOf]; omega
  ·have hS : zcY l = true := (zhB l).2 (fun j hj => hs j hj (by have := HN.out; omega))
   have HSR := Lib.hid hS
   have HB := Lib.hid hB
   have j1 : ¬ (k : Int) < (n : Int) := by omega
   clear hs hB hS
   go_wp2_with fail
   go_ret
   exact ⟨by rw [HSR.out]; rfl, HB.out⟩
theorem zhN (room : Int) (w : World) : Calls Tryz.prog 64 #[.int .i64 room] w fun e w' => e = .returned (.bool (decide (0 ≤ room ∧ room ≤ 64))) ∧ w = w' := by
 obtain ⟨P, hP⟩ : ∃ P, decide (0 ≤ room ∧ room ≤ 64) = P := ⟨_, rfl⟩
 rw [hP]
 have HP := Lib.hid hP
 clear hP
 by_cases h1 : 0 ≤ room
 ·by_cases h2 : room ≤ 64
  ·have HD : Hid (P = true) := HP.out.symm.trans (decide_eq_true ⟨h1, h2⟩)
   go_enter Tryz.func64, Tryz.ntmps64
   go_wp2_with fail
   go_ret
   exact ⟨by rw [HD.out]; rfl, rfl⟩
  ·have HD : Hid (P = false) := HP.out.symm.trans (decide_eq_false (fun h => h2 h.2))
   go_enter Tryz.func64, Tryz.ntmps64
   go_wp2_with fail
   go_ret
   exact ⟨by rw [HD.out]; rfl, rfl⟩
 ·have HD : Hid (P = false) := HP.out.symm.trans (decide_eq_false (fun h => h1 h.1))
  go_enter Tryz.func64, Tryz.ntmps64
  go_wp2_with fail
  go_ret
  exact ⟨by rw [HD.out]; rfl, rfl⟩
def aggC (room : Int) (fl : Nat) (A : Option Addr) (n c : Nat) : Value := .agg #[.int .i64 room, .int .u64 (fl : Int), .slice A n c]
theorem zeu (room : Int) (fl : Nat) (l : List Us) (n c : Nat) (A : Option Addr) (w : World) (HN : Hid (l.length = n)) (hr : RdU w A l) (HF : Hid (fitU l)) (hn : n ≤ 1000000000) :
  Calls Tryz.prog 42 #[aggC room fl A n c] w fun e w' => e = .returned (.bool (zby (room, fl, l))) ∧ Below w.heap.size w w' := by
 obtain ⟨P, hP⟩ : ∃ P, zby (room, fl, l) = P := ⟨_, rfl⟩
 rw [hP]
 have HP := Lib.hid hP
 clear hP
 unfold Hid at HP
 rw [zmk] at HP
 dsimp only at HP
 have HP := Lib.hid HP
 have hR : Row (w.alloc (.cells #[.int .i64 room, .int .u64 (fl : Int), .slice A n c] 35)) w.heap.size 35 [.int .i64 room, .int .u64 (fl : Int), .slice A n c] := Row.new w _ _ _ rfl
 have hB0 := zak (Below.refl _ w) (.cells #[.int .i64 room, .int .u64 (fl : Int), .slice A n c] 35)
 unfold aggC
 go_enter Tryz.func42, Tryz.ntmps42
 go_upto_region 1 with fail
 generalize w.alloc (.cells #[.int .i64 room, .int .u64 (fl : Int), .slice A n c] 35) = w1 at hR hB0 ⊢
 have hlt := hR.lt
 generalize w.heap.size = bg at hR hlt ⊢
 have c0 := hR.cell (i := 0) rfl
 have c2 := hR.cell (i := 2) rfl
 have HB0 := Lib.hid hB0
 clear hB0
 go_wp2_with fail
 refine (zhN room _).mono ?_
 rintro e w2 ⟨rfl, rfl⟩
 by_cases h1 : 0 ≤ room ∧ room ≤ 64
 ·have hd : decide (0 ≤ room ∧ room ≤ 64) = true := decide_eq_true h1
  rw [hd]
  have HP1 := HP.out
  rw [hd, Bool.true_and] at HP1
  by_cases h2 : (n : Int) ≤ room
  ·have h2' : ((l.length : Nat) : Int) ≤ room := by rw [HN.out]; exact h2
   rw [decide_eq_true h2', Bool.true_and] at HP1
   have HP2 := Lib.hid HP1
   clear HP HP1 hd h1 h2'
   have g2 : ¬ room < (n : Int) := by omega
   have d0 : ∀ W, Below w1.heap.size w1 W → W.cell? ⟨bg, 0, none⟩ = some (.int .i64 room) := fun W hW => (hR.later hW).cell rfl
   have d1 : ∀ W, Below w1.heap.size w1 W → W.cell? ⟨bg, 1, none⟩ = some (.int .u64 (fl : Int)) := fun W hW => (hR.later hW).cell rfl
   have d2 : ∀ W, Below w1.heap.size w1 W → W.cell? ⟨bg, 2, none⟩ = some (.slice A n c) := fun W hW => (hR.later hW).cell rfl
   go_upto_region 3 with fail
   have hBase := (Below.refl w1.heap.size w1).drew
   refine zaw (.step 0 false (.step 1 false (.step 2 false (.step 3 false (.step 4 true (.step 5 true (.step 6 false (.step 7 false (.step 8 false (.step 9 false (.step 10 true (.step 11 false (.step 12 false (.nil)))))))))))))) (by kernel_rfl) (by kernel_rfl) (by rfl) (by kernel_rfl) ?_
   iterate 4 (refine zae rfl (by rfl) (v := ?_) ?_ ?_; rotate_left 1; (intro W hW; have hW0 := zaa hBase hW; (try dsimp only at hW); go_simp <;> with_reducible rfl); simp only [List.getElem_toArray, List.getElem_cons_zero, List.getElem_cons_succ, Act.put, List.setIfInBounds_toArray, List.set_cons_zero, List.set_cons_succ])
   (refine zaI rfl (by rfl) (fun K hK => ?_); go_simp; (refine (zf7 fl _).mono ?_; rintro e₁ w4 ⟨gb, rfl, hgb, hcb, hbx⟩; unfold zjt); refine hK.out _ _ hbx ?_; clear hK K; replace hBase := zaa hBase hbx)
   (refine zaI rfl (by rfl) (fun K hK => ?_); go_simp; (refine (zff l fl n c gb A _ HN ((hr.keep HB0.out).keep hBase) hn hcb).mono ?_; rintro e₁ w5 ⟨rfl, hbx⟩); refine hK.out _ _ hbx ?_; clear hK K; replace hBase := zaa hBase hbx)
   cases hany : l.any (fun u => decide (u.2.2 < fl)) with
   | true =>
    rw [hany] at HP2
    have HP3 : Hid (P = false) := HP2.out.symm
    iterate 2 (refine zae rfl (by rfl) (v := ?_) ?_ ?_; rotate_left 1; (intro W hW; have hW0 := zaa hBase hW; (try dsimp only at hW); go_simp <;> with_reducible rfl); simp only [List.getElem_toArray, List.getElem_cons_zero, List.getElem_cons_succ, Act.put, List.setIfInBounds_toArray, List.set_cons_zero, List.set_cons_succ])
    iterate 3 (refine zdh rfl (by rfl) ?_; simp only [List.getElem_toArray, List.getElem_cons_zero, List.getElem_cons_succ, Act.put, List.setIfInBounds_toArray, List.set_cons_zero, List.set_cons_succ])
    iterate 2 (refine zae rfl (by rfl) (v := ?_) ?_ ?_; rotate_left 1; (intro W hW; have hW0 := zaa hBase hW; (try dsimp only at hW); go_simp <;> with_reducible rfl); simp only [List.getElem_toArray, List.getElem_cons_zero, List.getElem_cons_succ, Act.put, List.setIfInBounds_toArray, List.set_cons_zero, List.set_cons_succ])
    refine zal ?_
    have HB2 := Lib.hid (zaa HB0.out hBase)
    go_wp2_with fail
    go_ret
    exact ⟨by rw [HP3.out]; rfl, HB2.out⟩
   | false =>
    rw [hany] at HP2
    have HP3 : Hid (P = zcY l) := HP2.out.symm
    iterate 4 (refine zae rfl (by rfl) (v := ?_) ?_ ?_; rotate_left 1; (intro W hW; have hW0 := zaa hBase hW; (try dsimp only at hW); go_simp <;> with_reducible rfl); simp only [List.getElem_toArray, List.getElem_cons_zero, List.getElem_cons_succ, Act.put, List.setIfInBounds_toArray, List.set_cons_zero, List.set_cons_succ])
    (refine zaI rfl (by rfl) (fun K hK => ?_); go_simp; (refine (zju l n c A _ HN ((hr.keep HB0.out).keep hBase) HF hn).mono ?_; rintro e₁ w6 ⟨rfl, hbx⟩); refine hK.out _ _ hbx ?_; clear hK K; replace hBase := zaa hBase hbx)
    iterate 2 (refine zae rfl (by rfl) (v := ?_) ?_ ?_; rotate_left 1; (intro W hW; have hW0 := zaa hBase hW; (try dsimp only at hW); go_simp <;> with_reducible rfl); simp only [List.getElem_toArray, List.getElem_cons_zero, List.getElem_cons_succ, Act.put, List.setIfInBounds_toArray, List.set_cons_zero, List.set_cons_succ])
    refine zal ?_
    have HB2 := Lib.hid (zaa HB0.out hBase)
    go_wp2_with fail
    go_ret
    exact ⟨by rw [HP3.out]; rfl, HB2.out⟩
  ·have h2' : ¬ ((l.length : Nat) : Int) ≤ room := by rw [HN.out]; exact h2
   rw [decide_eq_false h2', Bool.false_and] at HP1
   have HP2 := Lib.hid HP1
   clear HP HP1 hd h1 h2'
   have g2 : room < (n : Int) := by omega
   go_wp2_with fail
   go_ret
   exact ⟨by rw [← HP2.out]; rfl, HB0.out⟩
 ·have hd : decide (0 ≤ room ∧ room ≤ 64) = false := decide_eq_false h1
  rw [hd]
  have HP1 := HP.out
  rw [hd, Bool.false_and] at HP1
  have HP2 := Lib.hid HP1
  clear HP HP1 hd h1
  go_wp2_with fail
  go_ret
  exact ⟨by rw [← HP2.out]; rfl, HB0.out⟩
theorem zoU (a b x c d y : Nat) (w : World) : (binOp .eql 57 (.agg #[.int .u64 (a : Int), .int .u64 (b : Int), .int .u64 (x : Int)]) (.agg #[.int .u64 (c : Int), .int .u64 (d : Int), .int .u64 (y : Int)])).run Tryz.prog w = .ok (.bool (decide ((a, b, x) = (c, d, y)))) w := by
 have u3 := Tryz.underlying28
 have a3 := Tryz.isAgg28
 have z3 := Tryz.sizeOf28
 have hS : Tryz.prog.underlying 57 = some (.struct (Tryz.prog.fieldsOf 57)) := by kernel_rfl
 have hp : Tryz.prog.stoodInHeld 57 = false := by kernel_rfl
 rw [run_eql_struct, show (10000 : Nat) = 9999 + 1 from rfl, run_equalIn_agg w 9999 57 _ _ hS hp]
 simp only [Program.fieldsOf, Tryz.underlying57]
 go_simp
 by_cases h1 : a = c <;> by_cases h2 : b = d <;> by_cases h3 : x = y <;> simp [h1, h2, h3] <;> omega
theorem zpe (a b x c d y : Nat) (w : World) : (binOp .neq 57 (.agg #[.int .u64 (a : Int), .int .u64 (b : Int), .int .u64 (x : Int)]) (.agg #[.int .u64 (c : Int), .int .u64 (d : Int), .int .u64 (y : Int)])).run Tryz.prog w = .ok (.bool (!decide ((a, b, x) = (c, d, y)))) w := by
 have u3 := Tryz.underlying28
 have a3 := Tryz.isAgg28
 have z3 := Tryz.sizeOf28
 have hS : Tryz.prog.underlying 57 = some (.struct (Tryz.prog.fieldsOf 57)) := by kernel_rfl
 have hp : Tryz.prog.stoodInHeld 57 = false := by kernel_rfl
 rw [run_neq_struct, show (10000 : Nat) = 9999 + 1 from rfl, run_equalIn_agg w 9999 57 _ _ hS hp]
 simp only [Program.fieldsOf, Tryz.underlying57]
 go_simp
 by_cases h1 : a = c <;> by_cases h2 : b = d <;> by_cases h3 : x = y <;> simp [h1, h2, h3] <;> omega
theorem ziy (op : BinOp) (x y : Operand) (xs ys : Array Value) (w : World) : (eqGuard op 57 x y (.agg xs) (.agg ys)).run Tryz.prog w = .ok () w := run_eqGuard_agg w op 57 x y xs ys (by kernel_rfl)
theorem zk3 (l : List Us) (g : Us) (n c : Nat) (A : Option Addr) (w : World) (HN : Hid (l.length = n)) (hr : RdU w A l) (hn : n ≤ 1000000000) :
  Calls Tryz.prog 95 #[.slice A n c, aggU g] w fun e w' => (∃ v : Int, e = .returned (.int .i64 v) ∧ decide (0 ≤ v) = hasU l g ∧ -1 ≤ v ∧ v ≤ n) ∧ Below w.heap.size w w' := by
 obtain ⟨g0, hg0⟩ : ∃ x, x = g.1 := ⟨_, rfl⟩
 obtain ⟨g1, hg1⟩ : ∃ x, x = g.2.1 := ⟨_, rfl⟩
 obtain ⟨g2, hg2⟩ : ∃ x, x = g.2.2 := ⟨_, rfl⟩
 have HG : Hid (g = (g0, g1, g2)) := by unfold Hid; rw [hg0, hg1, hg2]
 unfold aggU vNU
 rw [← hg0, ← hg1, ← hg2]
 clear hg0 hg1 hg2
 have hR : Row (w.alloc (.cells #[.int .u64 (g0 : Int), .int .u64 (g1 : Int), .int .u64 (g2 : Int)] 57)) w.heap.size 57 [.int .u64 (g0 : Int), .int .u64 (g1 : Int), .int .u64 (g2 : Int)] := Row.new w _ _ _ rfl
 have hB0 := zak (Below.refl _ w) (.cells #[.int .u64 (g0 : Int), .int .u64 (g1 : Int), .int .u64 (g2 : Int)] 57)
 go_enter Tryz.func95, Tryz.ntmps95
 go_upto_region 1 with fail
 generalize w.alloc (.cells #[.int .u64 (g0 : Int), .int .u64 (g1 : Int), .int .u64 (g2 : Int)] 57) = w1 at hR hB0 ⊢
 have hg1 := hR.lt
 generalize w.heap.size = bg at hR hg1 ⊢
 go_wp2_with fail
 go_loopw [8] (fun i wr => (∃ k : Nat, i = .int .i64 (k : Int) ∧ k ≤ n ∧ g ∉ l.take k) ∧ Below w1.heap.size w1 wr) (fun i _ => n - (intOf i).toNat)
 case atStart => exact ⟨⟨0, rfl, by omega, by simp⟩, Below.refl _ _⟩
 case round =>
  obtain ⟨⟨k, rfl, hk, hnot⟩, hB⟩ := hrel
  by_cases hlt : k < n
  ·have hkl : k < l.length := by rw [HN.out]; exact hlt
   obtain ⟨b, o, rfl, hb, hrng, p0, p1, p2⟩ := (hr.keep hB0).pair hkl
   replace p0 := (hB.cell (p := ⟨b, o + k * 3, none⟩) hb).trans p0
   replace p1 := (hB.cell (p := ⟨b, o + k * 3 + 1, none⟩) hb).trans p1
   replace p2 := (hB.cell (p := ⟨b, o + k * 3 + 2, none⟩) hb).trans p2
   have HT : Hid (g ∉ l.take (k + 1) ↔ ¬ l[k] = g) := by
    unfold Hid
    rw [List.take_succ_eq_append_getElem hkl, List.mem_append]
    simp [hnot, eq_comm]
   have HI : Hid (l[k] = g → hasU l g = true) := fun h => by unfold hasU; rw [decide_eq_true_iff, ← h]; exact List.getElem_mem hkl
   generalize l[k] = x at p0 p1 p2 HT HI
   obtain ⟨x0, x1, x2⟩ := x
   unfold vNU at p0 p1 p2
   dsimp only at p0 p1 p2
   have d0 : ∀ W, Below wr.heap.size wr W → W.cell? ⟨b, o + k * 3, none⟩ = some (.int .u64 (x0 : Int)) := fun W hW => (hW.cell (p := ⟨b, o + k * 3, none⟩) (World.block_lt_of_cell? wr _ p0)).trans p0
   have d1 : ∀ W, Below wr.heap.size wr W → W.cell? ⟨b, o + k * 3 + 1, none⟩ = some (.int .u64 (x1 : Int)) := fun W hW => (hW.cell (p := ⟨b, o + k * 3 + 1, none⟩) (World.block_lt_of_cell? wr _ p1)).trans p1
   have d4 : ∀ W, Below wr.heap.size wr W → W.cell? ⟨b, o + k * 3 + 2, none⟩ = some (.int .u64 (x2 : Int)) := fun W hW => (hW.cell (p := ⟨b, o + k * 3 + 2, none⟩) (World.block_lt_of_cell? wr _ p2)).trans p2
   have d5 : ∀ W, Below wr.heap.size wr W → W.cell? ⟨bg, 2, none⟩ = some (.int .u64 (g2 : Int)) := fun W hW => ((hR.later hB).later hW).cell rfl
   have d2 : ∀ W, Below wr.heap.size wr W → W.cell? ⟨bg, 0, none⟩ = some (.int .u64 (g0 : Int)) := fun W hW => ((hR.later hB).later hW).cell rfl
   have d3 : ∀ W, Below wr.heap.size wr W → W.cell? ⟨bg, 1, none⟩ = some (.int .u64 (g1 : Int)) := fun W hW => ((hR.later hB).later hW).cell rfl
   have i2 : (0 : Int) ≤ (k : Int) := by omega
   have i3 : (k : Int) < (n : Int) := by omega
   have hq := fun W => zoU g0 g1 g2 x0 x1 x2 W
   have HQ : Hid (decide ((g0, g1, g2) = (x0, x1, x2)) = true ↔ (x0, x1, x2) = g) := by unfold Hid; rw [decide_eq_true_iff, HG.out]; exact eq_comm
   generalize decide ((g0, g1, g2) = (x0, x1, x2)) = r at hq HQ
   have hgd := fun op x y xs ys W => ziy op x y xs ys W
   have HB := Lib.hid hB
   have HKN : Hid (k < n) := hlt
   clear hrng hB hnot p0 p1 p2
   go_wp2_with fail
   have hBase := (Below.refl wr.heap.size wr).drew
   refine zaw (.step 0 false (.step 1 false (.step 2 false (.step 3 false (.step 4 false (.step 5 false (.nil))))))) (by kernel_rfl) (by kernel_rfl) (by rfl) (by kernel_rfl) ?_
   iterate 6 (refine zae rfl (by rfl) (v := ?_) ?_ ?_; rotate_left 1; (intro W hW; have hW0 := zaa hBase hW; (try dsimp only at hW); go_simp <;> with_reducible rfl); simp only [List.getElem_toArray, List.getElem_cons_zero, List.getElem_cons_succ, Act.put, List.setIfInBounds_toArray, List.set_cons_zero, List.set_cons_succ])
   refine zal ?_
   have HB2 := Lib.hid (zaa HB.out hBase)
   cases r with
   | true =>
    have HH := Lib.hid (HI.out (HQ.out.1 rfl))
    go_wp2_with fail
    go_ret
    exact ⟨⟨(k : Int), rfl, by rw [HH.out]; exact decide_eq_true (by omega), by omega, by omega⟩, hB0.trans (HB2.out.mono hB0.size)⟩
   | false =>
    have hne : ¬ (x0, x1, x2) = g := fun h => by have := HQ.out.2 h; cases this
    go_wp2_with fail
    go_roundw
    case rel => exact ⟨⟨k + 1, by go_num, by omega, HT.out.2 hne⟩, HB2.out⟩
    case measure => simp [intOf]; omega
  ·have hkn : k = n := by omega
   have hm : hasU l g = false := by
    unfold hasU
    rw [decide_eq_false_iff_not]
    rw [hkn, ← HN.out, List.take_length] at hnot
    exact hnot
   have HM := Lib.hid hm
   have j1 : ¬ (k : Int) < (n : Int) := by omega
   have HB := Lib.hid hB
   clear hm hnot hkn hB
   go_wp2_with fail
   go_ret
   exact ⟨⟨-1, rfl, by rw [HM.out]; rfl, by omega, by omega⟩, hB0.trans (HB.out.mono hB0.size)⟩
theorem zhO (l : List Us) (g : Us) (n c : Nat) (A : Option Addr) (w : World) (HN : Hid (l.length = n)) (hr : RdU w A l) (hn : n ≤ 1000000000) :
  Calls Tryz.prog 59 #[.slice A n c, aggU g] w fun e w' => e = .returned (.bool (hasU l g)) ∧ Below w.heap.size w w' := by
 have hix := fun W hW => zk3 l g n c A W HN (hr.keep hW) hn
 have HIX := Lib.hid hix
 clear hix hr
 unfold aggU vNU at HIX ⊢
 have hR : Row (w.alloc (.cells #[.int .u64 (g.1 : Int), .int .u64 (g.2.1 : Int), .int .u64 (g.2.2 : Int)] 57)) w.heap.size 57 [.int .u64 (g.1 : Int), .int .u64 (g.2.1 : Int), .int .u64 (g.2.2 : Int)] := Row.new w _ _ _ rfl
 have hB0 := zak (Below.refl _ w) (.cells #[.int .u64 (g.1 : Int), .int .u64 (g.2.1 : Int), .int .u64 (g.2.2 : Int)] 57)
 generalize g.1 = g0 at hR hB0 HIX ⊢
 generalize g.2.1 = g1 at hR hB0 HIX ⊢
 generalize g.2.2 = g2 at hR hB0 HIX ⊢
 go_enter Tryz.func59, Tryz.ntmps59
 go_upto_region 1 with fail
 generalize w.alloc (.cells #[.int .u64 (g0 : Int), .int .u64 (g1 : Int), .int .u64 (g2 : Int)] 57) = w1 at hR hB0 ⊢
 have hc0 := hR.cell (i := 0) rfl
 have hc1 := hR.cell (i := 1) rfl
 have hc2 := hR.cell (i := 2) rfl
 go_wp2_with fail
 refine (HIX.out _ hB0).mono ?_
 rintro e w2 ⟨⟨v, rfl, hv, hv1, hv2⟩, hb2⟩
 have HV := Lib.hid hv
 clear hv
 clear hc0 hc1 hc2
 go_wp2_with fail
 go_ret
 exact ⟨by rw [← HV.out]; rfl, hB0.trans (hb2.mono hB0.size)⟩
theorem zmA (room : Int) (fl : Nat) (l : List Us) (g0 g1 g2 : Nat) (n c : Nat) (A : Option Addr) (w : World) (HN : Hid (l.length = n)) (hr : RdU w A l) (hn : n ≤ 1000000000) :
  Calls Tryz.prog 29 #[aggC room fl A n c, .agg #[.int .u64 (g0 : Int), .int .u64 (g1 : Int), .int .u64 (g2 : Int)]] w fun e w' => e = .returned (.bool (hasU l (g0, g1, g2))) ∧ Below w.heap.size w w' := by
 have hix := fun W hW => zhO l (g0, g1, g2) n c A W HN (hr.keep hW) hn
 have HIX := Lib.hid hix
 clear hix hr
 unfold aggU vNU at HIX
 unfold aggC
 dsimp only at HIX
 have hR0 : Row (w.alloc (.cells #[.int .i64 room, .int .u64 (fl : Int), .slice A n c] 35)) w.heap.size 35 [.int .i64 room, .int .u64 (fl : Int), .slice A n c] := Row.new w _ _ _ rfl
 have hR1 : Row ((w.alloc (.cells #[.int .i64 room, .int .u64 (fl : Int), .slice A n c] 35)).alloc (.cells #[.int .u64 (g0 : Int), .int .u64 (g1 : Int), .int .u64 (g2 : Int)] 57)) (w.heap.size + 1) 57 [.int .u64 (g0 : Int), .int .u64 (g1 : Int), .int .u64 (g2 : Int)] := Row.new_at _ _ (by simp) _ _ _ rfl
 replace hR0 := hR0.alloc (.cells #[.int .u64 (g0 : Int), .int .u64 (g1 : Int), .int .u64 (g2 : Int)] 57)
 have hB0 := zak (zak (Below.refl _ w) (.cells #[.int .i64 room, .int .u64 (fl : Int), .slice A n c] 35)) (.cells #[.int .u64 (g0 : Int), .int .u64 (g1 : Int), .int .u64 (g2 : Int)] 57)
 go_enter Tryz.func29, Tryz.ntmps29
 go_upto_region 1 with fail
 generalize (w.alloc (.cells #[.int .i64 room, .int .u64 (fl : Int), .slice A n c] 35)).alloc (.cells #[.int .u64 (g0 : Int), .int .u64 (g1 : Int), .int .u64 (g2 : Int)] 57) = w1 at hR0 hR1 hB0 ⊢
 have hc2 := hR0.cell (i := 2) rfl
 have k0 := hR1.cell (i := 0) rfl
 have k1 := hR1.cell (i := 1) rfl
 have k2 := hR1.cell (i := 2) rfl
 have HB0 := Lib.hid hB0
 clear hR0 hR1 hB0
 go_wp2_with fail
 refine (HIX.out _ HB0.out).mono ?_
 rintro e w2 ⟨rfl, hb2⟩
 clear hc2 k0 k1 k2
 go_wp2_with fail
 go_ret
 exact ⟨rfl, zaa HB0.out hb2⟩
theorem zev (x : Us) (l : List Us) : zar (x :: l) = vNU x.1 :: vNU x.2.1 :: vNU x.2.2 :: zar l := rfl
theorem zew : ∀ (l : List Us) (k : Nat), (zar l).take (k * 3) = zar (l.take k)
 | _, 0 => by simp [zar]
 | [], k + 1 => by simp [zar]
 | x :: l, k + 1 => by
  have ih := zew l k
  rw [zev, List.take_succ_cons, zev, show (k + 1) * 3 = k * 3 + 1 + 1 + 1 by omega, List.take_succ_cons, List.take_succ_cons, List.take_succ_cons, ih]
theorem zf8 : ∀ (l : List Us) (k : Nat), (zar l).drop (k * 3) = zar (l.drop k)
 | _, 0 => by simp
 | [], k + 1 => by simp [zar]
 | x :: l, k + 1 => by
  have ih := zf8 l k
  rw [zev, List.drop_succ_cons, show (k + 1) * 3 = k * 3 + 1 + 1 + 1 by omega, List.drop_succ_cons, List.drop_succ_cons, List.drop_succ_cons, ih]
theorem zdQ (k : Nat) : zar (List.replicate k (0, 0, 0)) = (Builtin.zeroCells (Value.agg #[.int .u64 0, .int .u64 0, .int .u64 0]).cells k).toList := by
 apply List.ext_getElem?
 intro j
 by_cases hj : j < k * 3
 ·have hk : j / 3 < (List.replicate k ((0, 0, 0) : Us)).length := by rw [List.length_replicate]; omega
  obtain ⟨g0, g1, g2⟩ := zcL (List.replicate k (0, 0, 0)) (j / 3) hk
  simp only [List.getElem_replicate] at g0 g1 g2
  have h3 : j % 3 = 0 ∨ j % 3 = 1 ∨ j % 3 = 2 := by omega
  have hz : (Builtin.zeroCells (Value.agg #[.int .u64 0, .int .u64 0, .int .u64 0]).cells k).toList[j]? = some ((#[Value.int .u64 0, .int .u64 0, .int .u64 0] : Array Value)[j % 3]!) := by
   simp [Builtin.zeroCells, Value.cells, hj]
  rw [hz]
  rcases h3 with hp | hp | hp
  ·have e2 : j / 3 * 3 = j := by omega
   rw [e2] at g0
   rw [g0, hp]
   rfl
  ·have e2 : j / 3 * 3 + 1 = j := by omega
   rw [e2] at g1
   rw [g1, hp]
   rfl
  ·have e2 : j / 3 * 3 + 2 = j := by omega
   rw [e2] at g2
   rw [g2, hp]
   rfl
 ·rw [List.getElem?_eq_none (by rw [zay, List.length_replicate]; omega), List.getElem?_eq_none (by simp [Builtin.zeroCells, Value.cells]; omega)]
def CelU (w : World) (g : Nat) (e : TypeId) (cap : Nat) (l : List Us) : Prop := ∃ L, Row w g e L ∧ L.length = cap * 3 ∧ L.take (l.length * 3) = zar l
section
variable {w w' : World} {g : Nat} {e : TypeId} {cap : Nat} {l : List Us}
theorem CelU.lt (h : CelU w g e cap l) : g < w.heap.size := by
 obtain ⟨L, h1, _⟩ := h
 exact h1.lt
theorem CelU.later (h : CelU w g e cap l) (hb : Below w.heap.size w w') : CelU w' g e cap l := by
 obtain ⟨L, h1, h2⟩ := h
 exact ⟨L, h1.later hb, h2⟩
theorem CelU.drew (h : CelU w g e cap l) : CelU w.drew g e cap l := h
theorem CelU.fits (h : CelU w g e cap l) : l.length ≤ cap := by
 obtain ⟨L, _, h2, h3⟩ := h
 have := congrArg List.length h3
 rw [List.length_take, zay] at this
 omega
theorem CelU.cells (h : CelU w g e cap l) {j : Nat} {v : Value} (hj : (zar l)[j]? = some v) : w.cell? ⟨g, j, none⟩ = some v := by
 obtain ⟨L, h1, _, h2⟩ := h
 rw [h1.cell? j]
 have hl : j < l.length * 3 := by
  rw [← zay]
  exact (List.getElem?_eq_some_iff.1 hj).1
 rw [← h2, List.getElem?_take, if_pos hl] at hj
 exact hj
theorem CelU.rd_from (h : CelU w g e cap l) (o n : Nat) (hn : o + n ≤ l.length) : RdU w (some ⟨g, o * 3, none⟩) ((l.drop o).take n) := fun _ => ⟨g, o * 3, rfl, fun i hi => by
 rw [List.length_take, List.length_drop] at hi
 have hj : o + i < l.length := by omega
 obtain ⟨g0, g1, g2⟩ := zcL l (o + i) hj
 have e0 : o * 3 + i * 3 = (o + i) * 3 := by omega
 rw [e0, List.getElem_take, List.getElem_drop]
 exact ⟨h.cells g0, h.cells g1, h.cells g2⟩⟩
theorem CelU.rd (h : CelU w g e cap l) : RdU w (some ⟨g, 0, none⟩) l := by
 have := h.rd_from 0 l.length (by omega)
 rwa [List.drop_zero, List.take_length, Nat.zero_mul] at this
theorem CelU.pre (h : CelU w g e cap l) (k : Nat) : CelU w g e cap (l.take k) := by
 obtain ⟨L, h1, h3, h2⟩ := h
 refine ⟨L, h1, h3, ?_⟩
 rw [← zew, ← h2, List.take_take, List.length_take]
 congr 1
 omega
theorem CelU.at3 (h : CelU w g e cap l) {k : Nat} (hk : k < l.length) : w.cell? ⟨g, k * 3, none⟩ = some (vNU l[k].1) ∧ w.cell? ⟨g, k * 3 + 1, none⟩ = some (vNU l[k].2.1) ∧ w.cell? ⟨g, k * 3 + 2, none⟩ = some (vNU l[k].2.2) := by
 obtain ⟨g0, g1, g2⟩ := zcL l k hk
 exact ⟨h.cells g0, h.cells g1, h.cells g2⟩
theorem CelU.own {base : Nat} (h : CelU w g e cap l) (hb : base ≤ g) (hm : cap ≤ maxLen) : w.ownsRow base e 3 (.slice (some ⟨g, 0, none⟩) l.length cap) l.length (zar l) := by
 have hf := h.fits
 obtain ⟨L, h1, h3, h2⟩ := h
 exact ⟨zay l, .inr ⟨g, cap, L.toArray, rfl, hb, h1, hf, hm, by rw [List.size_toArray, h3], h2⟩⟩
theorem zmB {base n : Nat} (h : w.ownsRow base e 3 (.slice (some ⟨g, 0, none⟩) n cap) n (zar l)) : CelU w g e cap l ∧ base ≤ g ∧ l.length = n ∧ n ≤ cap ∧ cap ≤ maxLen := by
 have hl : l.length = n := by
  have := h.1
  rw [zay] at this
  omega
 rcases h.2 with ⟨e0, _⟩ | ⟨g', cap', cur, hv, hg, hgg, hc, hm, hs, ht⟩
 ·cases e0
 ·have hR : Row w g' e cur.toList := hgg
  injection hv with e1 e2 e3
  injection e1 with e1
  injection e1 with e1
  subst e1 e3
  exact ⟨⟨cur.toList, hR, by rw [Array.length_toList, hs], by rw [hl]; exact ht⟩, hg, hl, hc, hm⟩
theorem zf9 {base n : Nat} {A : Option Addr} (h : w.ownsRow base e 3 (.slice A n cap) n (zar l)) (hn : 0 < n) : ∃ g, A = some ⟨g, 0, none⟩ ∧ CelU w g e cap l ∧ base ≤ g ∧ l.length = n ∧ n ≤ cap ∧ cap ≤ maxLen := by
 obtain ⟨g, cap', hv, _, _⟩ := h.form hn
 have hA : A = some ⟨g, 0, none⟩ := by injection hv
 subst hA
 exact ⟨g, rfl, zmB h⟩
theorem zjv {L : List Value} (hL : L.take (l.length * 3) = zar l) (off : Nat) (S : List Us) (ho : off ≤ l.length) (hc : (off + S.length) * 3 ≤ L.length) :
  (L.take (off * 3) ++ zar S ++ L.drop (off * 3 + (zar S).length)).take ((l.take off ++ S ++ l.drop (off + S.length)).length * 3) = zar (l.take off ++ S ++ l.drop (off + S.length)) := by
 have hlen : l.length * 3 ≤ L.length := by
  have := congrArg List.length hL
  rw [List.length_take, zay] at this
  omega
 have hS := zay S
 have h1 : L.take (off * 3) = zar (l.take off) := by
  rw [← zew, ← hL, List.take_take]
  congr 1
  omega
 have h3 : (L.take (off * 3) ++ zar S).length = (off + S.length) * 3 := by rw [List.length_append, List.length_take, hS]; omega
 by_cases h : off + S.length ≤ l.length
 ·have h2 : (L.drop (off * 3 + (zar S).length)).take ((l.length - (off + S.length)) * 3) = zar (l.drop (off + S.length)) := by
   rw [← zf8, ← hL, List.drop_take, hS]
   congr 1
   ·omega
   ·congr 1
    omega
  have h4 : (l.take off ++ S ++ l.drop (off + S.length)).length = l.length := by
   rw [List.length_append, List.length_append, List.length_take, List.length_drop]
   omega
  rw [h4, List.take_append, h3, List.take_of_length_le (by omega), show l.length * 3 - (off + S.length) * 3 = (l.length - (off + S.length)) * 3 by omega, h2, h1, zcg, zcg]
 ·have h5 : l.drop (off + S.length) = [] := List.drop_eq_nil_of_le (by omega)
  have h6 : (l.take off ++ S).length = off + S.length := by rw [List.length_append, List.length_take]; omega
  rw [h5, List.append_nil, h6, List.take_append_of_le_length (by omega), List.take_of_length_le (by omega), h1, zcg]
theorem CelU.put (h : CelU w g e cap l) (off : Nat) (S : List Us) (ho : off ≤ l.length) (hf : off + S.length ≤ cap) : ∃ cur : Array Value, w.heap[g]? = some (.cells cur e (0, 0)) ∧ off * 3 + (zar S).length ≤ cur.size ∧
  CelU (w.setRow g (cur.toList.take (off * 3) ++ zar S ++ cur.toList.drop (off * 3 + (zar S).length)).toArray) g e cap (l.take off ++ S ++ l.drop (off + S.length)) := by
 have hfit := h.fits
 obtain ⟨L, h1, h3, h2⟩ := h
 have hS := zay S
 have h1' : w.heap[g]? = some (.cells L.toArray e (0, 0)) := h1
 refine ⟨L.toArray, h1', by simp; omega, ?_⟩
 refine ⟨_, h1.setRow _, ?_, zjv h2 off S ho (by omega)⟩
 simp only [List.length_append, List.length_take, List.length_drop]
 omega
end
section
variable {P : Program} {w : World} {g : Nat} {e : TypeId} {cap : Nat} {l : List Us}
theorem zga (w : World) (dT sT ty elem : TypeId) (off dLen dCap : Nat) (A : Option Addr) (S : List Us) (n sCap : Nat)
  (hu : P.underlying dT = some (.slice elem)) (hs : (P.info? elem).map (·.size) = some 3) (hg : CelU w g e cap l) (hr : RdU w A S) (hmin : Nat.min n dLen = S.length) (ho : off ≤ l.length) (hfit : off + S.length ≤ cap) :
  ∃ w', (Builtin.copy_ #[dT, sT] ty #[.slice (some ⟨g, off * 3, none⟩) dLen dCap, .slice A n sCap]).run P w = .ok (.int .i64 (S.length : Int)) w' ∧ CelU w' g e cap (l.take off ++ S ++ l.drop (off + S.length)) ∧ Only g w w' := by
 cases hq : P.info? elem with
 | none => simp [hq] at hs
 | some i =>
  have hi : i.size = 3 := by simpa [hq] using hs
  by_cases hS : S = []
  ·subst hS
   refine ⟨w, ?_, by simpa using hg, Only.refl _ _⟩
   have hl0 : ∀ (x : Addr), (loadCells x 0).run P w = .ok #[] w := fun x => by simpa using run_loadCells_list (P := P) w x [] (by simp)
   have hmin0 : Nat.min n dLen = 0 := hmin
   cases A <;> simp [Builtin.copy_, run_underlying hu, Builtin.lenOf, Builtin.firstCells, sizeOf, typeInfo, hq, hi, storeCells, hl0, goInt, hmin0]
  ·obtain ⟨b, o, rfl, _⟩ := hr hS
   obtain ⟨cur, h1, h2, h3⟩ := hg.put off S ho hfit
   refine ⟨_, ?_, h3, (Only.refl g w).setRow _⟩
   have hl := run_loadCells_list (P := P) w ⟨b, o, none⟩ (zar S) hr.range
   rw [zay] at hl
   have hst := run_storeCells_at P g (off * 3) e (zar S) 0 cur w h1 (by simpa using h2) (zeb S)
   simp only [Nat.add_zero] at hst
   simp [Builtin.copy_, run_underlying hu, Builtin.lenOf, Builtin.firstCells, sizeOf, typeInfo, hq, hi, hmin, hl, hst, goInt]
theorem zkq {o : Oper} {a : Act} {K : Act → World → Prop} {Q : Exit → Act → World → Prop} (d s : Operand) (dT sT : TypeId)
  (ho : o.op = .call { callee := .builtin .copy, args := #[d, s], argTypes := #[dT, sT] }) (elem : TypeId) (hu : P.underlying dT = some (.slice elem)) (hsz : (P.info? elem).map (·.size) = some 3)
  (off dLen dCap : Nat) (A : Option Addr) (S : List Us) (n sCap : Nat) (hd : a.eval d = .slice (some ⟨g, off * 3, none⟩) dLen dCap) (hs : a.eval s = .slice A n sCap) (hmin : Nat.min n dLen = S.length)
  (hg : CelU w g e cap l) (hr : RdU w A S) (hof : off ≤ l.length) (hfit : off + S.length ≤ cap)
  (h : ∀ w', CelU w' g e cap (l.take off ++ S ++ l.drop (off + S.length)) → Only g w w' → K (a.put o.dst (.int .i64 (S.length : Int))) w') : o.wp P a w K Q := by
 obtain ⟨w', hrun, h1, h2⟩ := zga (P := P) w dT sT o.type elem off dLen dCap A S n sCap hu hsz hg hr hmin hof hfit
 unfold Oper.wp execOp
 simp only [ho, resolve, invoke, builtin, Sem.run_bind, Sem.run_pure, Result.andThen_ok, List.map_toArray, List.map_cons, List.map_nil, hd, hs, hrun]
 exact h w' h1 h2
theorem zk4 (w : World) (t elem ty : TypeId) (ht : P.underlying t = some (.slice elem)) (hv : ∀ w, (zeroValue elem).run P w = .ok (.agg #[.int .u64 0, .int .u64 0, .int .u64 0]) w)
  (off n c : Nat) (hg : CelU w g e cap l) (hfit : off + n ≤ l.length) :
  ∃ w', (Builtin.clear_ #[t] ty #[.slice (some ⟨g, off * 3, none⟩) n c]).run P w = .ok (.tuple #[]) w' ∧ CelU w' g e cap (l.take off ++ List.replicate n (0, 0, 0) ++ l.drop (off + n)) ∧ Only g w w' := by
 cases n with
 | zero => exact ⟨w, by simp [Builtin.clear_, run_underlying ht], by simpa using hg, Only.refl _ _⟩
 | succ m =>
  obtain ⟨cur, h1, h2, h3⟩ := hg.put off (List.replicate (m + 1) (0, 0, 0)) (by omega) (by rw [List.length_replicate]; have := hg.fits; omega)
  rw [List.length_replicate] at h3
  refine ⟨_, ?_, h3, (Only.refl g w).setRow _⟩
  have hst := run_storeCells_at P g (off * 3) e (zar (List.replicate (m + 1) (0, 0, 0))) 0 cur w h1 (by simpa using h2) (zeb _)
  simp only [Nat.add_zero] at hst
  have hz : ∀ (z : Value), z = .agg #[.int .u64 0, .int .u64 0, .int .u64 0] → (Builtin.zeroCells z.cells (m + 1)).toList = zar (List.replicate (m + 1) (0, 0, 0)) := fun z hz => by rw [hz]; exact (zdQ _).symm
  have hz2 := hz _ rfl
  generalize zar (List.replicate (m + 1) (0, 0, 0)) = Z at hst hz2 ⊢
  simp only [Builtin.clear_, List.getElem?_toArray, List.getElem?_cons_zero, Sem.run_bind, run_underlying ht, Result.andThen_ok, hv, hz2, hst, Sem.run_pure]
theorem zk5 (w : World) (ty : TypeId) (k : Nat) (x : Us) (hi : (P.info? ty).map (·.size) = some 3) (hg : CelU w g e cap l) (hk : k < l.length) :
  ∃ w', (Instr.storeAt ty (.pointer (some ⟨g, k * 3, none⟩)) (aggU x)).run P w = .ok () w' ∧ CelU w' g e cap (l.set k x) ∧ Only g w w' := by
 obtain ⟨cur, h1, h2, h3⟩ := hg.put k [x] (by omega) (by have := hg.fits; simp; omega)
 have el : l.take k ++ [x] ++ l.drop (k + [x].length) = l.set k x := by
  rw [List.set_eq_take_append_cons_drop, if_pos hk]
  simp
 rw [el] at h3
 have hst := run_storeCells_at P g (k * 3) e (zar [x]) 0 cur w h1 (by simpa using h2) (zeb _)
 simp only [Nat.add_zero] at hst
 have hbl : Only g w (w.setRow g (cur.toList.take (k * 3) ++ zar [x] ++ cur.toList.drop (k * 3 + (zar [x]).length)).toArray) := (Only.refl g w).setRow _
 generalize w.setRow g (cur.toList.take (k * 3) ++ zar [x] ++ cur.toList.drop (k * 3 + (zar [x]).length)).toArray = W at hst h3 hbl
 refine ⟨W, ?_, h3, hbl⟩
 have hc : (aggU x).cells.toList = zar [x] := rfl
 have hz : (aggU x).cells.size = 3 := rfl
 cases hq : P.info? ty with
 | none => simp [hq] at hi
 | some i =>
  have hi3 : i.size = 3 := by simpa [hq] using hi
  simp [Instr.storeAt, Instr.sureAddr, storeVar, sizeOf, typeInfo, hq, hi3, hz, hc, hst]
theorem zfF {ops : Array Oper} {rest : List Oper} {o : Oper} {a : Act} {Q : Exit → Act → World → Prop} (hgd : o.guard = none) (ty : TypeId) (x y : Operand) (ho : o.op = .store ty x y)
  (k : Nat) (hx : a.eval x = .pointer (some ⟨g, k * 3, none⟩)) (u : Us) (hy : a.eval y = aggU u) (hi : (P.info? ty).map (·.size) = some 3) (hg : CelU w g e cap l) (hk : k < l.length)
  (h : ∀ w', CelU w' g e cap (l.set k u) → Only g w w' → wpList P ops Q rest (a.put o.dst undef) w') : wpList P ops Q (o :: rest) a w :=
 wpList_plain hgd fun _ hK => by
  obtain ⟨w', hrun, h1, h2⟩ := zk5 (P := P) w ty k u hi hg hk
  unfold Oper.wp execOp
  simp only [Instr.storeAt, Instr.sureAddr, Sem.run_bind, Sem.run_pure, Result.andThen_ok] at hrun
  simp only [ho, hx, hy, Instr.storeAt, Instr.sureAddr, Sem.run_bind, Sem.run_pure, Result.andThen_ok, hrun]
  exact hK _ _ (h w' h1 h2)
end
theorem RdU.only {g : Nat} {w w' : World} {A : Option Addr} {l : List Us} (h : RdU w A l) (k : Only g w w') (hA : l ≠ [] → ∀ a, A = some a → a.block ≠ g) : RdU w' A l := fun hn => by
 obtain ⟨b, o, rfl, hc⟩ := h hn
 refine ⟨b, o, rfl, fun i hi => ?_⟩
 obtain ⟨h0, h1, h2⟩ := hc i hi
 have hb := k.other b (hA hn _ rfl) (World.block_lt_of_cell? w _ h0)
 exact ⟨(World.cell?_of_block (w := w) (a := ⟨b, o + i * 3, none⟩) hb).trans h0, (World.cell?_of_block (w := w) (a := ⟨b, o + i * 3 + 1, none⟩) hb).trans h1, (World.cell?_of_block (w := w) (a := ⟨b, o + i * 3 + 2, none⟩) hb).trans h2⟩
theorem zhP {base g : Nat} {w w' : World} {e : TypeId} {v : Value} {n : Nat} {xs : List Value} (h : w.ownsRow base e 3 v n xs) (k : Only g w w') (hg : g < base) : w'.ownsRow base e 3 v n xs := zaT h (fun b hb hl => k.other b (by omega) hl)
theorem RdU.one (w : World) (a b c : Nat) (t : TypeId) : RdU (w.alloc (.cells #[.int .u64 (a : Int), .int .u64 (b : Int), .int .u64 (c : Int)] t)) (some ⟨w.heap.size, 0, none⟩) [(a, b, c)] := fun _ => by
 refine ⟨w.heap.size, 0, rfl, fun i hi => ?_⟩
 have hi0 : i = 0 := by simpa using hi
 subst hi0
 have hRn : Row (w.alloc (.cells #[.int .u64 (a : Int), .int .u64 (b : Int), .int .u64 (c : Int)] t)) w.heap.size t [.int .u64 (a : Int), .int .u64 (b : Int), .int .u64 (c : Int)] := Row.new w _ _ _ rfl
 exact ⟨hRn.cell rfl, hRn.cell rfl, hRn.cell rfl⟩
theorem zec : (Tryz.prog.info? 57).map (fun i => (i.zero, i.size, i.bytes)) = some (some (.agg #[.int .u64 0, .int .u64 0, .int .u64 0]), 3, 24) := by kernel_rfl
theorem zaW : (Tryz.prog.info? 57).map (·.size) = some 3 := by kernel_rfl
def zqe (w : World) (l : List Us) (e : Ending) (w' : World) : Prop := ∃ v, e = .returned v ∧ w'.ownsRow w.heap.size 57 3 v l.length (zar l) ∧ Below w.heap.size w w'
theorem zk6 (l : List Us) (A : Option Addr) (c : Nat) (w : World) (hr : RdU w A l) (hl : l.length ≤ 1000000000) : Calls Tryz.prog 157 #[.slice A l.length c] w (zqe w l) := by
 obtain ⟨i0, hi, hz0, hz1, hz2⟩ := info_parts zec
 cases A with
 | none =>
  have hb : l = [] := by
   by_cases h : l = []
   ·exact h
   ·obtain ⟨_, _, e, _⟩ := hr h
    cases e
  subst hb
  have hnil : ∀ W, (binOp .eql 33 (.slice none 0 c) (.slice none 0 0)).run Tryz.prog W = .ok (.bool true) W := fun W => Lib.run_eql_slice_nil W _ _ none 0 c 0 0 Tryz.underlying33
  go_enter Tryz.func157, Tryz.ntmps157
  go_wp2_with fail
  go_ret
  exact ⟨_, rfl, World.ownsRow_nil _ _ _ _, Below.refl _ _⟩
 | some a =>
  have hnil : ∀ W, (binOp .eql 33 (.slice (some a) l.length c) (.slice none 0 0)).run Tryz.prog W = .ok (.bool false) W := fun W => Lib.run_eql_slice_nil W _ _ (some a) l.length c 0 0 Tryz.underlying33
  have hown0 : (w.alloc (.cells #[] 57)).ownsRow w.heap.size 57 3 (.slice (some ⟨w.heap.size, 0, none⟩) 0 0) 0 [] := World.ownsRow_made w #[] 0 (Nat.le_refl _) (by unfold maxLen; omega) rfl
  have hr0 : RdU (w.alloc (.cells #[] 57)) (some a) l := hr.keep (zak (Below.refl _ _) _)
  go_enter Tryz.func157, Tryz.ntmps157
  go_wp2_with (at_builtin; refine zbI _ rfl (.tmp 5) (.tmp 6) 33 rfl w.heap.size 57 i0 (.agg #[.int .u64 0, .int .u64 0, .int .u64 0]) 24 Tryz.underlying33 hi hz0 hz1 hz2 rfl _ _ _ rfl hown0 (some a) l c rfl hr0 (by unfold maxLen; omega) (by omega) (by simp) ?_; intro v1 w1 hown1 hgrow1 _)
  go_ret
  rw [Nat.zero_add, List.nil_append] at hown1
  exact ⟨_, rfl, hown1, (zak (Below.refl _ w) _).grown hgrow1 (by simp) (fun k hk => (hown0.lt k hk).1)⟩
theorem zap : (Tryz.prog.info? 35).map (·.size) = some 3 := by kernel_rfl
theorem za3 (room : Int) (fl : Nat) (A : Option Addr) (n c : Nat) : ∀ v ∈ ([.int .i64 room, .int .u64 (fl : Int), .slice A n c] : List Value), v.oneCell' = true := fun v hv => by
 simp at hv
 rcases hv with rfl | rfl | rfl <;> rfl
def zpf (w : World) (room : Int) (fl : Nat) (l : List Us) (e : Ending) (w' : World) : Prop := ∃ A c, e = .returned (aggC room fl A l.length c) ∧ l.length ≤ c ∧ w'.ownsRow w.heap.size 57 3 (.slice A l.length c) l.length (zar l) ∧ Below w.heap.size w w'
theorem zdR (room : Int) (fl : Nat) (l : List Us) (n c : Nat) (A : Option Addr) (w : World) (HN : Hid (l.length = n)) (hr : RdU w A l) (hn : n ≤ 1000000000) :
  Calls Tryz.prog 124 #[aggC room fl A n c] w (zpf w room fl l) := by
 have e1 := HN.out
 subst e1
 clear HN
 have hR0 : Row (w.alloc (.cells #[.int .i64 room, .int .u64 (fl : Int), .slice A l.length c] 35)) w.heap.size 35 [.int .i64 room, .int .u64 (fl : Int), .slice A l.length c] := Row.new w _ _ _ rfl
 have hR1 : Row ((w.alloc (.cells #[.int .i64 room, .int .u64 (fl : Int), .slice A l.length c] 35)).alloc (.cells #[.int .i64 0, .int .u64 0, .slice none 0 0] 35)) (w.heap.size + 1) 35 [.int .i64 0, .int .u64 0, .slice none 0 0] := Row.new_at _ _ (by simp) _ _ _ rfl
 replace hR0 := hR0.alloc (.cells #[.int .i64 0, .int .u64 0, .slice none 0 0] 35)
 have hB0 := zak (zak (Below.refl _ w) (.cells #[.int .i64 room, .int .u64 (fl : Int), .slice A l.length c] 35)) (.cells #[.int .i64 0, .int .u64 0, .slice none 0 0] 35)
 unfold aggC
 go_enter Tryz.func124, Tryz.ntmps124
 go_upto_region 1 with fail
 generalize (w.alloc (.cells #[.int .i64 room, .int .u64 (fl : Int), .slice A l.length c] 35)).alloc (.cells #[.int .i64 0, .int .u64 0, .slice none 0 0] 35) = w1 at hR0 hR1 hB0 ⊢
 have hr1 := hr.keep hB0
 have k2 := hR0.cell (i := 2) rfl
 have hgz := hR1.lt
 go_wp2_with fail
 refine (zk6 l A c _ hr1 hn).mono ?_
 rintro e w2 ⟨v2, rfl, hown2, hb2⟩
 obtain ⟨A2, c2, rfl, hc2, _, _⟩ := zcM hown2
 replace hR0 := hR0.later hb2
 replace hR1 := hR1.later hb2
 replace hB0 := zaa hB0 hb2
 have hs2 := hb2.size
 have f2 := hR0.frozen 2
 replace k2 : w2.cell? ⟨w.heap.size, 2, none⟩ = some (.slice A l.length c) := hR0.cell rfl
 clear hr hr1
 have hR2 : Row (w2.setCell ⟨w.heap.size, 2, none⟩ (.slice A2 l.length c2)) w.heap.size 35 [.int .i64 room, .int .u64 (fl : Int), .slice A2 l.length c2] := hR0.setCell 2 _
 have hR3 := hR1.setCell_other (p := ⟨w.heap.size, 2, none⟩) (by show w.heap.size + 1 ≠ w.heap.size; omega) (.slice A2 l.length c2)
 have hX := zaT (w' := w2.setCell ⟨w.heap.size, 2, none⟩ (.slice A2 l.length c2)) hown2 (fun b hb _ => Below.heap_setCell w2 ⟨w.heap.size, 2, none⟩ _ b (by show b ≠ w.heap.size; omega))
 have hB3 : Below w.heap.size w (w2.setCell ⟨w.heap.size, 2, none⟩ (.slice A2 l.length c2)) := hB0.setCell (p := ⟨w.heap.size, 2, none⟩) (Nat.le_refl _) _
 clear hB0
 go_upto_region 2 with fail
 clear hR0 hR1 hown2 f2 k2
 generalize w2.setCell ⟨w.heap.size, 2, none⟩ (.slice A2 l.length c2) = w3 at hR2 hR3 hX hB3 ⊢
 go_wp2_with (first
  | (refine zac rfl 35 (.tmp 1) rfl w.heap.size 0 rfl _ _ hR2 [.int .i64 room, .int .u64 (fl : Int), .slice A2 l.length c2] (by rfl) _ Tryz.underlying35 rfl (by exact zap) ?_)
  | (refine zab rfl 35 (.tmp 2) (.tmp 7) rfl (w.heap.size + 1) rfl [.int .i64 room, .int .u64 (fl : Int), .slice A2 l.length c2] rfl _ _ hR3 (by exact zap) rfl (za3 room fl A2 l.length c2) ?_))
 refine bodyPost_ret (results_cell_row (p := 2) (ty := 35) (by rfl) _ _ (w.heap.size + 1) 35 _ (0, 0) _ (by rfl) (by exact hR3.setRow _) Tryz.underlying35 (by rfl) (by exact zap)) (by rfl) ?_
 have hs1 : w.heap.size + 1 < w1.heap.size := hgz
 exact ⟨A2, c2, rfl, hc2, zdy (zaT (w' := w3.setRow (w.heap.size + 1) _) hX (fun b hb _ => Go.setRow_other w3 _ b _ (by omega))) (by omega), below_setRow hB3 (by omega) _⟩
theorem zcR {P : Program} (t e : TypeId) (ht : P.underlying t = some (.slice e)) (hz : ∀ w, (sizeOf e).run P w = .ok 3 w) (g n cap k : Nat) (hk : k ≤ n) (hc : k < cap) (hnc : n ≤ cap) (w : World) :
  (Instr.slice t (.slice (some ⟨g, 0, none⟩) n cap) (some (.int .i64 (k : Int))) none none).run P w = .ok (.slice (some ⟨g, k * 3, none⟩) (n - k) (cap - k)) w := by
 have ht' : P.underlying t = some (.slice (P.elem t)) := by simp [Program.elem, ht]
 have he : P.elem t = e := by simp [Program.elem, ht]
 rw [run_slice_l w t _ n cap ht' .i64 (k : Int) (by omega) (by omega), he, hz]
 simp [Result.andThen, sliced, Nat.ne_of_gt hc, Addr.add]
 exact fun h => h.symm
theorem zof {P : Program} (t e : TypeId) (ht : P.underlying t = some (.slice e)) (hz : ∀ w, (sizeOf e).run P w = .ok 3 w) (A : Option Addr) (n cap k : Nat) (hk : k ≤ n) (hnc : n ≤ cap) :
  ∃ A', ∀ w, (Instr.slice t (.slice A n cap) (some (.int .i64 (k : Int))) none none).run P w = .ok (.slice A' (n - k) (cap - k)) w := by
 have ht' : P.underlying t = some (.slice (P.elem t)) := by simp [Program.elem, ht]
 have he : P.elem t = e := by simp [Program.elem, ht]
 refine ⟨if cap = k then A else A.map (·.add (k * 3)), fun w => ?_⟩
 rw [run_slice_l w t A n cap ht' .i64 (k : Int) (by omega) (by omega), he, hz]
 simp [Result.andThen, sliced]
theorem zjw {P : Program} (t e : TypeId) (ht : P.underlying t = some (.slice e)) (hz : ∀ w, (sizeOf e).run P w = .ok 3 w) (A : Option Addr) (n cap k : Nat) (hk : k ≤ cap) (w : World) :
  (Instr.slice t (.slice A n cap) none (some (.int .i64 (k : Int))) none).run P w = .ok (.slice A k cap) w := by
 have ht' : P.underlying t = some (.slice (P.elem t)) := by simp [Program.elem, ht]
 have he : P.elem t = e := by simp [Program.elem, ht]
 have e2 : (if cap = 0 then A else A.map (·.add 0)) = A := by
  split
  ·rfl
  ·cases A <;> simp [Addr.add]
 rw [run_slice_h w t A n cap ht' .i64 (k : Int) (by omega) (by omega), he, hz]
 simp only [Result.andThen, sliced, Nat.zero_mul, Nat.sub_zero, Int.toNat_natCast, e2]
def zg4 (base : Nat) (w : World) (L : List Us) (e : Ending) (w' : World) : Prop := ∃ A c, e = .returned (.slice A L.length c) ∧ L.length ≤ c ∧ w'.ownsRow base 57 3 (.slice A L.length c) L.length (zar L) ∧ Below base w w'
theorem zk7 (l : List Us) (g : Us) (n c vb base : Nat) (A : Option Addr) (w : World) (HN : Hid (l.length = n)) (hown : w.ownsRow base 57 3 (.slice A n c) n (zar l)) (hc : n ≤ c) (hr : RdU w (some ⟨vb, 0, none⟩) [g]) (hn : n ≤ 1000000) (hbase : base ≤ w.heap.size) :
  Calls Tryz.prog 127 #[.slice A n c, .int .i64 (n : Int), .slice (some ⟨vb, 0, none⟩) 1 1] w (zg4 base w (l ++ [g])) := by
 obtain ⟨i0, hi, hz0, hz1, hz2⟩ := info_parts zec
 obtain ⟨A2, hcut⟩ := zof (P := Tryz.prog) 33 57 Tryz.underlying33 Tryz.sizeOf57 A n c n (Nat.le_refl _) hc
 go_enter Tryz.func127, Tryz.ntmps127
 go_wp2_with (at_builtin; refine zbI _ rfl (.tmp 23) (.tmp 24) 33 rfl base 57 i0 (.agg #[.int .u64 0, .int .u64 0, .int .u64 0]) 24 Tryz.underlying33 hi hz0 hz1 hz2 rfl _ _ _ rfl hown (some ⟨vb, 0, none⟩) [g] 1 rfl hr (by simp; unfold maxLen; omega) (by simp; omega) hbase ?_; intro v1 w1 hown1 hgrow1 _)
 have hb := (Below.refl base w).grown hgrow1 hbase (fun k hk => (hown.lt k hk).1)
 have hl : (l ++ [g]).length = n + 1 := by rw [List.length_append, HN.out]; rfl
 rw [← zcg] at hown1
 have hown2 : w1.ownsRow base 57 3 v1 (l ++ [g]).length (zar (l ++ [g])) := by rw [hl]; exact hown1
 obtain ⟨A1, c1, rfl, hc1, _, _⟩ := zcM hown2
 go_ret
 exact ⟨A1, c1, rfl, hc1, hown2, hb⟩
theorem zjx (l : List Us) (g : Us) (i n c vb gb base : Nat) (w : World) (HN : Hid (l.length = n)) (hcel : CelU w gb 57 c l) (hgb : base ≤ gb) (hcm : c ≤ maxLen) (hc : n + 1 ≤ c) (hin : i < n) (hv : Row w vb 57 (zes g)) (hne : vb ≠ gb) (hn : n ≤ 1000000) (hbase : base ≤ w.heap.size) :
  Calls Tryz.prog 127 #[.slice (some ⟨gb, 0, none⟩) n c, .int .i64 (i : Int), .slice (some ⟨vb, 0, none⟩) 1 1] w (zg4 base w (l.take i ++ g :: l.drop i)) := by
 have hcm2 : c ≤ 9223372036854775807 := hcm
 have hcut1 := fun W => zcR (P := Tryz.prog) 33 57 Tryz.underlying33 Tryz.sizeOf57 gb n c i (by omega) (by omega) (by omega) W
 have hcut2 : ∀ W, (Instr.slice 33 (.slice (some ⟨gb, 0, none⟩) n c) none (some (.int .i64 ((n : Int) + 1))) none).run Tryz.prog W = .ok (.slice (some ⟨gb, 0, none⟩) (n + 1) c) W := fun W => by
  have := zjw (P := Tryz.prog) 33 57 Tryz.underlying33 Tryz.sizeOf57 (some ⟨gb, 0, none⟩) n c (n + 1) hc W
  rwa [show (((n + 1 : Nat) : Int)) = (n : Int) + 1 by omega] at this
 have hcut3 : ∀ W, (Instr.slice 33 (.slice (some ⟨gb, 0, none⟩) (n + 1) c) (some (.int .i64 ((i : Int) + 1))) none none).run Tryz.prog W = .ok (.slice (some ⟨gb, (i + 1) * 3, none⟩) (n - i) (c - (i + 1))) W := fun W => by
  have := zcR (P := Tryz.prog) 33 57 Tryz.underlying33 Tryz.sizeOf57 gb (n + 1) c (i + 1) (by omega) (by omega) (by omega) W
  rwa [show (((i + 1 : Nat) : Int)) = (i : Int) + 1 by omega, show n + 1 - (i + 1) = n - i by omega] at this
 have hcut4 := fun W => zcR (P := Tryz.prog) 33 57 Tryz.underlying33 Tryz.sizeOf57 gb (n + 1) c i (by omega) (by omega) (by omega) W
 have hw1 : IntKind.i64.wrap ((n : Int) + 1) = (n : Int) + 1 := by rw [IntKind.wrap_i64]; omega
 have hw2 : IntKind.i64.wrap ((i : Int) + 1) = (i : Int) + 1 := by rw [IntKind.wrap_i64]; omega
 have hz2 : ¬ ((i : Int) = (n : Int)) := by omega
 have hg1 : ¬ ((c : Int) < (n : Int) + 1) := by omega
 have hov : (callFunc 158 #[.slice (some ⟨vb, 0, none⟩) 1 1, .slice (some ⟨gb, (i + 1) * 3, none⟩) (n - i) (c - (i + 1))]).run Tryz.prog w = .ok (.value (.bool false)) w := by
  obtain ⟨L, hL, hLc, _⟩ := hcel
  have hsa : w.shape? vb = some (57, 3) := by
   have h' : w.heap[vb]? = some (.cells (zes g).toArray 57 (0, 0)) := hv
   simp [World.shape?, h', zes]
  have hsb : w.shape? gb = some (57, L.length) := by
   have h' : w.heap[gb]? = some (.cells L.toArray 57 (0, 0)) := hL
   simp [World.shape?, h']
  rw [run_callFunc_extern Tryz.func158 (by kernel_rfl) (by kernel_rfl) (by kernel_rfl) (e := Extern.SlicesOverlaps.overlaps #[33, 33] #[4]) (by kernel_rfl),
   Lib.run_overlaps_apart w 33 4 57 Tryz.underlying33 3 Tryz.sizeOf57 ⟨vb, 0, none⟩ ⟨gb, (i + 1) * 3, none⟩ 1 1 (n - i) (c - (i + 1)) hne _ _ _ _ hsa hsb (by omega) (hv.frozen 0) (hv.frozen 3)]
  rfl
 go_enter Tryz.func127, Tryz.ntmps127
 go_upto_region 15 with (simp only [hov])
 refine zah (fun _ => True) (.step 0 false (.step 1 false (.step 2 false (.step 3 false (.step 4 false (.step 5 false (.step 6 false (.step 7 false (.step 8 true (.nil)))))))))) trivial (by kernel_rfl) (by kernel_rfl) (by rfl) (by kernel_rfl) ?_
 iterate 8 (refine zae rfl (by rfl) (v := ?_) ?_ ?_; rotate_left 1; (intro W hW; go_simp <;> with_reducible rfl); simp only [List.getElem_toArray, List.getElem_cons_zero, List.getElem_cons_succ, Act.put, List.setIfInBounds_toArray, List.set_cons_zero, List.set_cons_succ])
 refine zad rfl (by rfl) (fun K hK => ?_)
 have hld : (l.drop i).length = n - i := by rw [List.length_drop, HN.out]
 have hrd : RdU w.drew (some ⟨gb, i * 3, none⟩) (l.drop i) := by
  have := hcel.drew.rd_from i (n - i) (by rw [HN.out]; omega)
  rwa [List.take_of_length_le (by omega)] at this
 refine zkq (.tmp 73) (.tmp 76) 33 33 rfl 57 Tryz.underlying33 zaW (i + 1) (n - i) (c - (i + 1)) (some ⟨gb, i * 3, none⟩) (l.drop i) (n + 1 - i) (c - i) rfl rfl (by rw [hld]; exact Nat.min_eq_right (by omega)) hcel.drew hrd (by rw [HN.out]; omega) (by rw [hld]; omega) ?_
 intro w7 hc7 hb7
 refine hK.out _ _ trivial ?_
 clear hK K
 refine zal ?_
 have hv7 : Row w7 vb 57 (zes g) := hv.drew.only hb7 hne
 have e7 : l.take (i + 1) ++ l.drop i ++ l.drop (i + 1 + (l.drop i).length) = l.take (i + 1) ++ l.drop i := by
  have hdn : l.drop (i + 1 + (l.drop i).length) = [] := List.drop_eq_nil_of_le (by rw [hld, HN.out]; omega)
  rw [hdn, List.append_nil]
 rw [e7] at hc7
 have hl7 : (l.take (i + 1) ++ l.drop i).length = n + 1 := by rw [List.length_append, List.length_take, hld, HN.out]; omega
 have e8 : (l.take (i + 1) ++ l.drop i).take i ++ [g] ++ (l.take (i + 1) ++ l.drop i).drop (i + 1) = l.take i ++ g :: l.drop i := by
  have h1 : (l.take (i + 1)).length = i + 1 := by rw [List.length_take, HN.out]; omega
  rw [List.take_append_of_le_length (by omega), List.take_take, Nat.min_eq_left (by omega), List.drop_append_of_le_length (by omega), List.drop_of_length_le (by omega)]
  simp
 have HB7 : Hid (Below base w w7) := (Below.refl base w).drew.trans (hb7.below.mono hgb)
 have hr7 : RdU w7 (some ⟨vb, 0, none⟩) [g] := by
  obtain ⟨k0, k1, k2⟩ := hv7.use
  exact fun _ => ⟨vb, 0, rfl, fun j hj => by
   have hj0 : j = 0 := by simpa using hj
   subst hj0
   exact ⟨k0, k1, k2⟩⟩
 clear hov hcel hv hrd hb7
 obtain ⟨w8, hcp, hc8, hb8⟩ := zga (P := Tryz.prog) w7 33 33 3 57 i (n + 1 - i) (c - i) (some ⟨vb, 0, none⟩) [g] 1 1 Tryz.underlying33 zaW hc7 hr7 (by exact Nat.min_eq_left (by omega)) (by rw [hl7]; omega) (by simp; omega)
 clear hr7 hv7
 go_wp2_with fail
 go_ret
 have hc9 : CelU w8 gb 57 c (l.take i ++ g :: l.drop i) := by
  rw [← e8]
  exact hc8
 have hl9 : (l.take i ++ g :: l.drop i).length = n + 1 := by rw [List.length_append, List.length_cons, List.length_take, hld, HN.out]; omega
 refine ⟨some ⟨gb, 0, none⟩, c, by rw [hl9]; rfl, by rw [hl9]; exact hc, hc9.own hgb hcm, HB7.out.trans (hb8.below.mono hgb)⟩
theorem zjy (l : List Us) (g : Us) (i n c vb gb base : Nat) (w : World) (HN : Hid (l.length = n)) (hcel : CelU w gb 57 c l) (hgb : base ≤ gb) (hc : c < n + 1) (hin : i < n) (hr : RdU w (some ⟨vb, 0, none⟩) [g]) (hn : n ≤ 1000000) (hbase : base ≤ w.heap.size) :
  Calls Tryz.prog 127 #[.slice (some ⟨gb, 0, none⟩) n c, .int .i64 (i : Int), .slice (some ⟨vb, 0, none⟩) 1 1] w (zg4 base w (l.take i ++ g :: l.drop i)) := by
 obtain ⟨i0, hi, hz0, hz1, hz2⟩ := info_parts zec
 have hcl : l.length ≤ c := hcel.fits
 have hcn : n ≤ c := by have := HN.out; omega
 have hcut1 := fun W => zcR (P := Tryz.prog) 33 57 Tryz.underlying33 Tryz.sizeOf57 gb n c i (by omega) (by omega) (by omega) W
 have hcut2 := fun W => zjw (P := Tryz.prog) 33 57 Tryz.underlying33 Tryz.sizeOf57 (some ⟨gb, 0, none⟩) n c i (by omega) W
 have hkk : (n : Int) + 1 - (i : Int) = ((n + 1 - i : Nat) : Int) := by omega
 have hik : i + (n + 1 - i) = n + 1 := by omega
 have hlt : (l.take i).length = i := by rw [List.length_take, HN.out]; omega
 have hld : (l.drop i).length = n - i := by rw [List.length_drop, HN.out]
 have hold : (Builtin.firstCells i0.size i (.slice (some ⟨gb, 0, none⟩) i c)).run Tryz.prog w.drew = .ok (zar (l.take i)).toArray w.drew := by
  have hl3 : i * 3 = (zar (l.take i)).length := by rw [zay, hlt]
  have := run_loadCells_list (P := Tryz.prog) w.drew ⟨gb, 0, none⟩ (zar (l.take i)) ((hcel.pre i).drew.rd.range)
  simp only [Builtin.firstCells, hz1, hl3]
  exact this
 have hGn := grownCap_ge w (n + 1) c 57
 have hG63 := grownCap_le_maxLen w (n + 1) c 57 (by unfold maxLen; omega)
 have hrz : (Builtin.append_ #[33, 3] 33 #[.slice (some ⟨gb, 0, none⟩) i c, .int .i64 ((n : Int) + 1 - (i : Int))]).run Tryz.prog w =
   .ok (.slice (some ⟨w.heap.size, 0, none⟩) (n + 1) (grownCap w (n + 1) c 57)) (w.drew.alloc (.cells ((zar (l.take i)).toArray ++ Builtin.zeroCells (Value.agg #[.int .u64 0, .int .u64 0, .int .u64 0]).cells (n + 1 - i) ++ Builtin.zeroCells (Value.agg #[.int .u64 0, .int .u64 0, .int .u64 0]).cells (grownCap w (n + 1) c 57 - (n + 1))) 57)) := by
  have h := Lib.run_append_grow_zeros w 33 3 33 57 i0 _ .i64 .i64 Tryz.underlying33 Tryz.underlying3 hi hz0 (some ⟨gb, 0, none⟩) i c (zar (l.take i)) hold (n + 1 - i) (by omega) (by omega) (by omega) (by omega) (by rw [hz2]; omega) (by rw [hz2, hik]; exact growslice_fits (by omega) (by omega))
  rw [hik] at h
  rw [hkk]
  exact h
 generalize grownCap w (n + 1) c 57 = G at hrz hGn hG63
 have hcelN : CelU (w.drew.alloc (.cells ((zar (l.take i)).toArray ++ Builtin.zeroCells (Value.agg #[.int .u64 0, .int .u64 0, .int .u64 0]).cells (n + 1 - i) ++ Builtin.zeroCells (Value.agg #[.int .u64 0, .int .u64 0, .int .u64 0]).cells (G - (n + 1))) 57)) w.heap.size 57 G (l.take i ++ List.replicate (n + 1 - i) (0, 0, 0)) := by
  refine ⟨_, Row.new w.drew _ (zar (l.take i) ++ zar (List.replicate (n + 1 - i) (0, 0, 0)) ++ zar (List.replicate (G - (n + 1)) (0, 0, 0))) _ (by rw [zdQ, zdQ]; simp), ?_, ?_⟩
  ·simp only [List.length_append, zay, hlt, List.length_replicate]
   omega
  ·rw [← zcg, List.take_append_of_le_length (Nat.le_of_eq (zay _).symm), List.take_of_length_le (Nat.le_of_eq (zay _))]
 have HB1 : Hid (Below base w (w.drew.alloc (.cells ((zar (l.take i)).toArray ++ Builtin.zeroCells (Value.agg #[.int .u64 0, .int .u64 0, .int .u64 0]).cells (n + 1 - i) ++ Builtin.zeroCells (Value.agg #[.int .u64 0, .int .u64 0, .int .u64 0]).cells (G - (n + 1))) 57))) := (Below.refl base w).drew.alloc hbase _
 have hbA : Below w.heap.size w (w.drew.alloc (.cells ((zar (l.take i)).toArray ++ Builtin.zeroCells (Value.agg #[.int .u64 0, .int .u64 0, .int .u64 0]).cells (n + 1 - i) ++ Builtin.zeroCells (Value.agg #[.int .u64 0, .int .u64 0, .int .u64 0]).cells (G - (n + 1))) 57)) := (Below.refl w.heap.size w).drew.alloc (Nat.le_refl _) _
 have hold1 := hcel.later hbA
 have hv1 := hr.keep hbA
 have hgw := hcel.lt
 generalize w.drew.alloc (.cells ((zar (l.take i)).toArray ++ Builtin.zeroCells (Value.agg #[.int .u64 0, .int .u64 0, .int .u64 0]).cells (n + 1 - i) ++ Builtin.zeroCells (Value.agg #[.int .u64 0, .int .u64 0, .int .u64 0]).cells (G - (n + 1))) 57) = w1 at hrz hcelN HB1 hbA hold1 hv1
 have hl1 : (l.take i ++ List.replicate (n + 1 - i) ((0, 0, 0) : Us)).length = n + 1 := by rw [List.length_append, hlt, List.length_replicate]; omega
 obtain ⟨w2, hcp, hc2, ho2⟩ := zga (P := Tryz.prog) w1 33 33 3 57 i (n + 1 - i) (G - i) (some ⟨vb, 0, none⟩) [g] 1 1 Tryz.underlying33 zaW hcelN hv1 (by exact Nat.min_eq_left (by omega)) (by rw [hl1]; omega) (by simp; omega)
 have e2 : (l.take i ++ List.replicate (n + 1 - i) ((0, 0, 0) : Us)).take i ++ [g] ++ (l.take i ++ List.replicate (n + 1 - i) ((0, 0, 0) : Us)).drop (i + [g].length) = l.take i ++ g :: List.replicate (n - i) (0, 0, 0) := by
  rw [List.take_append_of_le_length (by omega), List.take_of_length_le (by omega), List.drop_append, hlt, List.drop_of_length_le (by rw [hlt]; simp), List.drop_replicate]
  simp
  omega
 rw [e2] at hc2
 have HO2 := Lib.hid ho2
 have hl2 : (l.take i ++ g :: List.replicate (n - i) ((0, 0, 0) : Us)).length = n + 1 := by rw [List.length_append, hlt, List.length_cons, List.length_replicate]; omega
 have hrd2 : RdU w2 (some ⟨gb, i * 3, none⟩) (l.drop i) := by
  have := hold1.rd_from i (n - i) (by rw [HN.out]; omega)
  rw [List.take_of_length_le (by omega)] at this
  exact this.only ho2 (fun _ a ha => by injection ha with ha; subst ha; show gb ≠ w.heap.size; omega)
 have hcut3 : ∀ W, (Instr.slice 33 (.slice (some ⟨w.heap.size, 0, none⟩) (n + 1) G) (some (.int .i64 ((i : Int) + 1))) none none).run Tryz.prog W = .ok (.slice (some ⟨w.heap.size, (i + 1) * 3, none⟩) (n - i) (G - (i + 1))) W := fun W => by
  have := zcR (P := Tryz.prog) 33 57 Tryz.underlying33 Tryz.sizeOf57 w.heap.size (n + 1) G (i + 1) (by omega) (by omega) (by omega) W
  rwa [show (((i + 1 : Nat) : Int)) = (i : Int) + 1 by omega, show n + 1 - (i + 1) = n - i by omega] at this
 have hcut4 := fun W => zcR (P := Tryz.prog) 33 57 Tryz.underlying33 Tryz.sizeOf57 w.heap.size (n + 1) G i (by omega) (by omega) (by omega) W
 have hw1 : IntKind.i64.wrap ((n : Int) + 1) = (n : Int) + 1 := by rw [IntKind.wrap_i64]; omega
 have hw2 : IntKind.i64.wrap ((i : Int) + 1) = (i : Int) + 1 := by rw [IntKind.wrap_i64]; omega
 have hw3 : IntKind.i64.wrap ((n : Int) + 1 - (i : Int)) = (n : Int) + 1 - (i : Int) := by rw [IntKind.wrap_i64]; omega
 have hzz : ¬ ((i : Int) = (n : Int)) := by omega
 have hg1 : (c : Int) < (n : Int) + 1 := by omega
 have HG := Lib.hid hGn
 have HGM := Lib.hid hG63
 have HGW := Lib.hid hgw
 clear hold hold1 hv1 hbA hkk hik hcelN e2 hi hz0 hz1 hz2 hGn hG63 hcl ho2 hcel hr
 go_enter Tryz.func127, Tryz.ntmps127
 go_upto_region 11 with (at_builtin; refine Lib.wpList_append_run _ rfl (.tmp 34) (.tmp 39) _ _ rfl _ _ rfl rfl _ _ hrz ?_)
 refine zah (fun _ => True) (.step 0 false (.step 1 false (.step 2 false (.step 3 false (.step 4 false (.step 5 false (.step 6 false (.step 7 false (.step 8 true (.nil)))))))))) trivial (by kernel_rfl) (by kernel_rfl) (by rfl) (by kernel_rfl) ?_
 iterate 8 (refine zae rfl (by rfl) (v := ?_) ?_ ?_; rotate_left 1; (intro W hW; go_simp <;> with_reducible rfl); simp only [List.getElem_toArray, List.getElem_cons_zero, List.getElem_cons_succ, Act.put, List.setIfInBounds_toArray, List.set_cons_zero, List.set_cons_succ])
 refine zad rfl (by rfl) (fun K hK => ?_)
 refine zkq (.tmp 50) (.tmp 53) 33 33 rfl 57 Tryz.underlying33 zaW (i + 1) (n - i) (G - (i + 1)) (some ⟨gb, i * 3, none⟩) (l.drop i) (n - i) (c - i) rfl rfl (by rw [hld]; exact Nat.min_eq_right (Nat.le_refl _)) hc2.drew hrd2 (by rw [hl2]; omega) (by have := HG.out; rw [hld]; omega) ?_
 intro w3 hc3 ho3
 refine hK.out _ _ trivial ?_
 clear hK K
 refine zal ?_
 have e3 : (l.take i ++ g :: List.replicate (n - i) ((0, 0, 0) : Us)).take (i + 1) ++ l.drop i ++ (l.take i ++ g :: List.replicate (n - i) ((0, 0, 0) : Us)).drop (i + 1 + (l.drop i).length) = l.take i ++ g :: l.drop i := by
  have h1 : (l.take i ++ g :: List.replicate (n - i) ((0, 0, 0) : Us)).drop (i + 1 + (l.drop i).length) = [] := List.drop_eq_nil_of_le (by rw [hl2, hld]; omega)
  rw [h1, List.take_append, hlt, List.take_of_length_le (by omega)]
  simp
 rw [e3] at hc3
 have HB3 : Hid (Below base w w3) := (HB1.out.trans (HO2.out.below.mono hbase)).drew.trans (ho3.below.mono hbase)
 go_wp2_with fail
 go_ret
 have hl9 : (l.take i ++ g :: l.drop i).length = n + 1 := by rw [List.length_append, List.length_cons, hlt, hld]; omega
 exact ⟨some ⟨w.heap.size, 0, none⟩, G, by rw [hl9]; rfl, by rw [hl9]; exact HG.out, hc3.own hbase HGM.out, HB3.out⟩
theorem zjz (l : List Us) (g : Us) (i n c vb base : Nat) (A : Option Addr) (w : World) (HN : Hid (l.length = n)) (hown : w.ownsRow base 57 3 (.slice A n c) n (zar l)) (hc : n ≤ c) (hv : Row w vb 57 (zes g)) (hne : ∀ a, A = some a → a.block ≠ vb) (hin : i ≤ n) (hn : n ≤ 1000000) (hbase : base ≤ w.heap.size) :
  Calls Tryz.prog 127 #[.slice A n c, .int .i64 (i : Int), .slice (some ⟨vb, 0, none⟩) 1 1] w (zg4 base w (l.take i ++ g :: l.drop i)) := by
 have hr : RdU w (some ⟨vb, 0, none⟩) [g] := by
  obtain ⟨k0, k1, k2⟩ := hv.use
  exact fun _ => ⟨vb, 0, rfl, fun j hj => by
   have hj0 : j = 0 := by simpa using hj
   subst hj0
   exact ⟨k0, k1, k2⟩⟩
 by_cases he : i = n
 ·subst he
  rw [List.take_of_length_le (Nat.le_of_eq HN.out), List.drop_of_length_le (Nat.le_of_eq HN.out)]
  exact zk7 l g i c vb base A w HN hown hc hr hn hbase
 ·obtain ⟨gb, rfl, hcel, hgb, _, hc2, hcm⟩ := zf9 hown (by omega)
  by_cases hroom : n + 1 ≤ c
  ·exact zjx l g i n c vb gb base w HN hcel hgb hcm hroom (by omega) hv (fun h => hne _ rfl h.symm) hn hbase
  ·exact zjy l g i n c vb gb base w HN hcel hgb (by omega) (by omega) hr hn hbase
def zpP (fl : Nat) (l : List Us) (gb c g base : Nat) (w : World) (i j : Value) (wr : World) : Prop :=
 ∃ (x y : Nat) (m : List Us), i = .int .i64 (x : Int) ∧ j = .int .i64 (y : Int) ∧ x < y ∧ KeepU fl l x y m ∧ CelU wr gb 57 c m ∧ wr.cell? ⟨g, 0, none⟩ = some (.int .u64 (fl : Int)) ∧ Below base w wr
theorem zjA (l : List Us) (fl n c g gb base : Nat) (k : Nat) (w : World) (HN : Hid (l.length = n)) (hcel : CelU w gb 57 c l) (hgb : base ≤ gb) (hcm : c ≤ maxLen) (hc : n ≤ c) (hn : n ≤ 1000000) (hbase : base ≤ w.heap.size) (c1 : w.cell? ⟨g, 0, none⟩ = some (.int .u64 (fl : Int))) (hne : gb ≠ g)
  (hk : k < l.length) (hkb : ¬ fl ≤ l[k].2.2) (hks : ze8 fl l k) (hix : Hid (∀ v : Int, IdxB fl l v → v = (k : Int))) :
  Calls Tryz.prog 125 #[.slice (some ⟨gb, 0, none⟩) n c, .func (.func 120) #[] #[.pointer (some ⟨g, 0, none⟩)]] w (zg4 base w (za9 fl l)) := by
 have HK0 : Hid (KeepU fl l k (k + 1) l) := KeepU.start hk hks hkb
 have hkn : k < n := by have := HN.out; omega
 have hIX := zdd l fl n c g (some ⟨gb, 0, none⟩) w HN hcel.rd (by omega) c1
 have HCM := Lib.hid hcm
 clear hkb hks hk
 go_enter Tryz.func125, Tryz.ntmps125
 go_wp2_with fail
 refine hIX.mono ?_
 rintro e w1 ⟨⟨v, rfl, hv⟩, hb1⟩
 have e1 := hix.out v hv
 subst e1
 have hcel1 := hcel.later hb1
 have c2 : w1.cell? ⟨g, 0, none⟩ = some (.int .u64 (fl : Int)) := (hb1.cell (p := ⟨g, 0, none⟩) (World.block_lt_of_cell? w _ c1)).trans c1
 have hB1 : Below base w w1 := hb1.mono hbase
 have hw1 : IntKind.i64.wrap ((k : Int) + 1) = (k : Int) + 1 := by rw [IntKind.wrap_i64]; omega
 have hnk : ¬ ((k : Int) = -1) := by omega
 clear hIX hv hcel c1 hb1 hix
 go_wp2_with fail
 go_loopw [5, 6, 7] (fun i j _ wr => zpP fl l gb c g base w i j wr) (fun _ j _ _ => n - (intOf j).toNat)
 case atStart => exact ⟨k, k + 1, l, rfl, by go_num, by omega, HK0.out, hcel1, c2, hB1⟩
 case round =>
  clear hcel1 c2 hB1 hw1 hnk HK0
  obtain ⟨x, y, m, rfl, rfl, hxlt, hkeep, hcel, hcg, hB⟩ := hrel
  have hxy := hkeep.le
  by_cases hlt : y < n
  ·have hyl : y < l.length := by rw [HN.out]; exact hlt
   obtain ⟨hym, hmy⟩ := hkeep.at hyl
   obtain ⟨p0, p1, p2⟩ := hcel.at3 hym
   rw [hmy] at p0 p1 p2
   have HS : Hid (¬ fl ≤ l[y].2.2 → KeepU fl l x (y + 1) m) := hkeep.skip hyl
   have HK : Hid (fl ≤ l[y].2.2 → KeepU fl l (x + 1) (y + 1) (m.set x l[y])) := hkeep.keep hyl
   have HML : Hid (m.length = n) := hkeep.1.trans HN.out
   clear hmy hkeep
   generalize l[y] = u at p0 p1 p2 HS HK
   obtain ⟨u0, u1, u2⟩ := u
   unfold vNU at p0 p1 p2
   dsimp only at p0 p1 p2 HS HK
   have i2 : (0 : Int) ≤ (y : Int) := by omega
   have i3 : (y : Int) < (n : Int) := by omega
   have i4 : (0 : Int) ≤ (x : Int) := by omega
   have i5 : (x : Int) < (n : Int) := by omega
   obtain ⟨hRv, hBv⟩ := zat wr 57 [.int .u64 0, .int .u64 0, .int .u64 0] _ rfl
   go_upto_region 8 with (refine zab rfl 57 (.tmp 7) (.tmp 25) rfl wr.heap.size rfl [.int .u64 (u0 : Int), .int .u64 (u1 : Int), .int .u64 (u2 : Int)] rfl _ _ hRv (by exact zaW) rfl (zmx (u0, u1, u2)) ?_)
   have hRu := hRv.setRow [.int .u64 (u0 : Int), .int .u64 (u1 : Int), .int .u64 (u2 : Int)]
   have hBu : Below wr.heap.size wr ((wr.alloc (.cells #[.int .u64 0, .int .u64 0, .int .u64 0] 57)).setRow wr.heap.size #[.int .u64 (u0 : Int), .int .u64 (u1 : Int), .int .u64 (u2 : Int)]) := below_setRow hBv (Nat.le_refl _) _
   clear hRv hBv p0 p1 p2
   generalize (wr.alloc (.cells #[.int .u64 0, .int .u64 0, .int .u64 0] 57)).setRow wr.heap.size #[.int .u64 (u0 : Int), .int .u64 (u1 : Int), .int .u64 (u2 : Int)] = w2 at hRu hBu ⊢
   have hcel2 := hcel.later hBu
   have hcg2 : w2.cell? ⟨g, 0, none⟩ = some (.int .u64 (fl : Int)) := (hBu.cell (p := ⟨g, 0, none⟩) (World.block_lt_of_cell? wr _ hcg)).trans hcg
   have hB2 := hB.trans (hBu.mono (Nat.le_trans hbase hB.size))
   have e0 := hRu.cell (i := 0) rfl
   have e1 := hRu.cell (i := 1) rfl
   have e2 := hRu.cell (i := 2) rfl
   have hgw := hcel.lt
   have hsz := hBu.size
   have hbw := Nat.le_trans hbase hB.size
   clear hcel hcg hB hBu
   go_wp2_with fail
   have hcl := zg3 (u0, u1, u2) fl g _ hcg2
   unfold aggU vNU at hcl
   refine hcl.mono ?_
   clear hcl
   rintro e w3 ⟨rfl, hb3⟩
   have hRu3 := hRu.later hb3
   have hcel3 := hcel2.later hb3
   have hcg3 : w3.cell? ⟨g, 0, none⟩ = some (.int .u64 (fl : Int)) := (hb3.cell (p := ⟨g, 0, none⟩) (World.block_lt_of_cell? w2 _ hcg2)).trans hcg2
   have hB3 := hB2.trans (hb3.mono (by omega))
   clear e0 e1 e2 hcel2 hcg2 hB2 hRu hb3
   have e0 := hRu3.cell (i := 0) rfl
   have e1 := hRu3.cell (i := 1) rfl
   have e2 := hRu3.cell (i := 2) rfl
   dsimp only
   by_cases hx : u2 < fl
   ·have hd : decide (u2 < fl) = true := decide_eq_true hx
    rw [hd]
    have HS2 := Lib.hid (HS.out (by omega))
    clear hd hx HS HK
    go_wp2_with fail
    go_roundw
    case rel => refine ⟨_, _, _, _, _, _, _, _, _, _, _, _, _, _, _, _, _, _, _, _, _, _, _, ?_, rfl⟩; exact ⟨x, y + 1, m, rfl, by go_num, by omega, HS2.out, hcel3, hcg3, hB3⟩
    case measure => simp [intOf]; omega
   ·have hd : decide (u2 < fl) = false := decide_eq_false hx
    rw [hd]
    have HK2 := Lib.hid (HK.out (by omega))
    clear hd hx HS HK
    go_wp2_with (refine zfF rfl 57 (.tmp 33) (.tmp 32) rfl x rfl (u0, u1, u2) rfl zaW hcel3 (by rw [HML.out]; omega) ?_; intro w5 hc5 ho5)
    have hcg5 : w5.cell? ⟨g, 0, none⟩ = some (.int .u64 (fl : Int)) := (World.cell?_of_block (w := w3) (a := ⟨g, 0, none⟩) (ho5.other g (Ne.symm hne) (World.block_lt_of_cell? w3 _ hcg3))).trans hcg3
    have hB5 := hB3.trans (ho5.below.mono hgb)
    go_roundw
    case rel => refine ⟨_, _, _, _, _, _, _, _, _, _, _, _, _, _, _, _, _, _, _, _, _, _, _, ?_, rfl⟩; exact ⟨x + 1, y + 1, m.set x (u0, u1, u2), by go_num, by go_num, by omega, HK2.out, hc5, hcg5, hB5⟩
    case measure => simp [intOf]; omega
  ·have hyn : y = n := by
    have := hkeep.2.2.2.2
    have := HN.out
    omega
   have e1 := HN.out
   subst e1
   subst hyn
   obtain ⟨hd1, hd2⟩ := hkeep.done
   have hml : m.length = l.length := hkeep.1
   have hxl : x ≤ m.length := by omega
   have hzv : ∀ w, (zeroValue 57).run Tryz.prog w = .ok (.agg #[.int .u64 0, .int .u64 0, .int .u64 0]) w := fun w => by
    obtain ⟨i0, hi, hz0, _, _⟩ := info_parts zec
    simp [zeroValue, typeInfo, hi, hz0]
   obtain ⟨w6, hclr, hc6, ho6⟩ := zk4 (P := Tryz.prog) wr 33 57 0 Tryz.underlying33 hzv x (l.length - x) (c - x) hcel (by omega)
   have hcut1 : x < c → ∀ W, (Instr.slice 33 (.slice (some ⟨gb, 0, none⟩) l.length c) (some (.int .i64 (x : Int))) none none).run Tryz.prog W = .ok (.slice (some ⟨gb, x * 3, none⟩) (l.length - x) (c - x)) W := fun h W => zcR (P := Tryz.prog) 33 57 Tryz.underlying33 Tryz.sizeOf57 gb l.length c x (by omega) h hc W
   replace hcut1 := hcut1 (by omega)
   have hcut2 := fun W => zjw (P := Tryz.prog) 33 57 Tryz.underlying33 Tryz.sizeOf57 (some ⟨gb, 0, none⟩) l.length c x (by omega) W
   have HXC : Hid (x ≤ c ∧ x = (za9 fl l).length) := ⟨by omega, hd2⟩
   have hc7 : CelU w6 gb 57 c (za9 fl l) := by
    have h7 := hc6.pre x
    have e7 : (m.take x ++ List.replicate (l.length - x) ((0, 0, 0) : Us) ++ m.drop (x + (l.length - x))).take x = za9 fl l := by
     rw [List.append_assoc, List.take_append_of_le_length (by rw [List.length_take]; omega), List.take_take, Nat.min_self, hd1]
    rw [e7] at h7
    exact h7
   have HB6 : Hid (Below base w w6) := hB.trans (ho6.below.mono hgb)
   clear hd1 hd2 hkeep hcel hc6 ho6 hcg hB
   go_wp2_with fail
   go_ret
   obtain ⟨h1, h2⟩ := HXC.out
   subst h2
   exact ⟨some ⟨gb, 0, none⟩, c, rfl, h1, hc7.own hgb HCM.out, HB6.out⟩
theorem zgb (fl : Nat) : ∀ l : List Us, (∀ u ∈ l, fl ≤ u.2.2) ∨ ∃ k, ∃ hk : k < l.length, ¬ fl ≤ l[k].2.2 ∧ ze8 fl l k
 | [] => .inl (fun u hu => by cases hu)
 | a :: l => by
  by_cases ha : fl ≤ a.2.2
  ·rcases zgb fl l with h | ⟨k, hk, h1, h2⟩
   ·exact .inl (fun u hu => by
     rcases List.mem_cons.1 hu with rfl | hu
     ·exact ha
     ·exact h u hu)
   ·refine .inr ⟨k + 1, by simpa using hk, by simpa using h1, fun j hj hjk => ?_⟩
    cases j with
    | zero => exact ha
    | succ j => simpa using h2 j (by simpa using hj) (by omega)
  ·exact .inr ⟨0, by simp, ha, fun j _ hj => by omega⟩
theorem zog {fl : Nat} {l : List Us} (h : ∀ u ∈ l, fl ≤ u.2.2) {v : Int} (hv : IdxB fl l v) : v = -1 := by
 rcases hv with ⟨rfl, _⟩ | ⟨k, rfl, hk, h1, _⟩
 ·rfl
 ·exact absurd (h _ (List.getElem_mem hk)) h1
theorem zmC {fl : Nat} {l : List Us} {k : Nat} (hk : k < l.length) (hb : ¬ fl ≤ l[k].2.2) (hs : ze8 fl l k) {v : Int} (hv : IdxB fl l v) : v = (k : Int) := by
 rcases hv with ⟨rfl, h⟩ | ⟨j, rfl, hj, h1, h2⟩
 ·exact absurd (h _ (List.getElem_mem hk)) hb
 ·by_cases h3 : j < k
  ·exact absurd (hs j hj h3) h1
  ·by_cases h4 : k < j
   ·exact absurd (h2 k hk h4) hb
   ·congr 1
    omega
theorem zjB (l : List Us) (fl n c g base : Nat) (A : Option Addr) (w : World) (HN : Hid (l.length = n)) (hown : w.ownsRow base 57 3 (.slice A n c) n (zar l)) (hc : n ≤ c) (hne : ∀ a, A = some a → a.block ≠ g) (hn : n ≤ 1000000) (hbase : base ≤ w.heap.size) (c1 : w.cell? ⟨g, 0, none⟩ = some (.int .u64 (fl : Int))) :
  Calls Tryz.prog 125 #[.slice A n c, .func (.func 120) #[] #[.pointer (some ⟨g, 0, none⟩)]] w (zg4 base w (za9 fl l)) := by
 rcases zgb fl l with hall | ⟨k, hk, hkb, hks⟩
 ·rw [zic hall]
  have e1 := HN.out
  subst e1
  have hIX := zdd l fl _ c g A w HN (RdU.own hown) (by omega) c1
  have HALL := Lib.hid hall
  have HOW := Lib.hid hown
  clear hall hown
  go_enter Tryz.func125, Tryz.ntmps125
  go_wp2_with fail
  refine hIX.mono ?_
  rintro e w1 ⟨⟨v, rfl, hv⟩, hb1⟩
  have ev := zog HALL.out hv
  subst ev
  clear hIX hv
  go_wp2_with fail
  go_ret
  exact ⟨A, c, rfl, hc, zbh HOW.out hb1, hb1.mono hbase⟩
 ·obtain ⟨gb, rfl, hcel, hgb, _, hc2, hcm⟩ := zf9 hown (by have := HN.out; omega)
  exact zjA l fl n c g gb base k w HN hcel hgb hcm hc hn hbase c1 (hne _ rfl) hk hkb hks (fun v hv => zmC hk hkb hks hv)
end Go.Proofs.YteljklkgdejhpaaGreatDoor
