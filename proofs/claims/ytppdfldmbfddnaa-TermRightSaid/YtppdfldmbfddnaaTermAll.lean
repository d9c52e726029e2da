/-
  The laws of layer 5, at whatever comes in: they answer true, and write nothing that was there. No conditions.
-/
import Derived.Test.YtppdfldmbfddnaaTermFound
import Derived.Test.YtppdfldmbfddnaaOpenL
namespace Go.Proofs.Ytppdfldmbfddnaa
open Go.RowKit Go.WideShapes
set_option linter.unusedSimpArgs false
set_option linter.unusedVariables false

set_option maxRecDepth 100000 in
theorem termright_out (ts : List TD) (p n m q : Nat) (A B C D : Option Addr) (c d e f : Nat) (w : World) (HP : Hid (ts.length = p)) (ht : inT w A ts) (hp : p ≤ 9223372036854775807) (hn : n ≤ 9223372036854775807) (hm : m ≤ 9223372036854775807) (hq : q ≤ 9223372036854775807) (h : ¬ (shortT (conT ts) = true ∧ n ≤ 3000 ∧ m ≤ 3000 ∧ q ≤ 3000)) :
    Calls Try.prog 3 #[.slice A p c, .slice B n d, .slice C m e, .slice D q f] w fun e w' => e = .returned (.bool true) ∧ Below w.heap.size w w' := by
  go_enter Try.func3, Try.ntmps3
  go_wp2_with fail
  refine (awake5_any _).mono ?_
  rintro e' w1 ⟨rfl, hB⟩
  go_wp2_with fail
  refine (refshort_any ts p A c _ HP (ht.1.keep hB) ht.2.2 hp).mono ?_
  rintro e' w1 ⟨rfl, rfl⟩
  by_cases hs : shortT (conT ts) = true
  · rw [hs]
    by_cases h1 : n ≤ 3000
    · have g1 : decide ((3000 : Int) < (n : Int)) = false := decide_eq_false (by omega)
      have n1 : ¬ 3000 < n := by omega
      by_cases h2 : m ≤ 3000
      · have g2 : decide ((3000 : Int) < (m : Int)) = false := decide_eq_false (by omega)
        have n2 : ¬ 3000 < m := by omega
        have h3 : ¬ q ≤ 3000 := fun h3 => h ⟨hs, h1, h2, h3⟩
        have g3 : decide ((3000 : Int) < (q : Int)) = true := decide_eq_true (by omega)
        have n3 : 3000 < q := by omega
        clear h
        go_wp2_with fail
        go_ret
        exact ⟨rfl, hB⟩
      · have g2 : decide ((3000 : Int) < (m : Int)) = true := decide_eq_true (by omega)
        have n2 : 3000 < m := by omega
        clear h
        go_wp2_with fail
        go_ret
        exact ⟨rfl, hB⟩
    · have g1 : decide ((3000 : Int) < (n : Int)) = true := decide_eq_true (by omega)
      have n1 : 3000 < n := by omega
      clear h
      go_wp2_with fail
      go_ret
      exact ⟨rfl, hB⟩
  · rw [Bool.eq_false_iff.2 hs]
    clear h
    go_wp2_with fail
    go_ret
    exact ⟨rfl, hB⟩

set_option maxRecDepth 100000 in
theorem termfound_out (ts : List TD) (p n m q : Nat) (A B C D : Option Addr) (c d e f : Nat) (w : World) (HP : Hid (ts.length = p)) (ht : inT w A ts) (hp : p ≤ 9223372036854775807) (hn : n ≤ 9223372036854775807) (hm : m ≤ 9223372036854775807) (hq : q ≤ 9223372036854775807) (h : ¬ (shortT (conT ts) = true ∧ n ≤ 3000 ∧ m ≤ 3000 ∧ q ≤ 20)) :
    Calls Try.prog 4 #[.slice A p c, .slice B n d, .slice C m e, .slice D q f] w fun e w' => e = .returned (.bool true) ∧ Below w.heap.size w w' := by
  go_enter Try.func4, Try.ntmps4
  go_wp2_with fail
  refine (awake5_any _).mono ?_
  rintro e' w1 ⟨rfl, hB⟩
  go_wp2_with fail
  refine (refshort_any ts p A c _ HP (ht.1.keep hB) ht.2.2 hp).mono ?_
  rintro e' w1 ⟨rfl, rfl⟩
  by_cases hs : shortT (conT ts) = true
  · rw [hs]
    by_cases h1 : n ≤ 3000
    · have g1 : decide ((3000 : Int) < (n : Int)) = false := decide_eq_false (by omega)
      have n1 : ¬ 3000 < n := by omega
      by_cases h2 : m ≤ 3000
      · have g2 : decide ((3000 : Int) < (m : Int)) = false := decide_eq_false (by omega)
        have n2 : ¬ 3000 < m := by omega
        have h3 : ¬ q ≤ 20 := fun h3 => h ⟨hs, h1, h2, h3⟩
        have g3 : decide ((20 : Int) < (q : Int)) = true := decide_eq_true (by omega)
        have n3 : 20 < q := by omega
        clear h
        go_wp2_with fail
        go_ret
        exact ⟨rfl, hB⟩
      · have g2 : decide ((3000 : Int) < (m : Int)) = true := decide_eq_true (by omega)
        have n2 : 3000 < m := by omega
        clear h
        go_wp2_with fail
        go_ret
        exact ⟨rfl, hB⟩
    · have g1 : decide ((3000 : Int) < (n : Int)) = true := decide_eq_true (by omega)
      have n1 : 3000 < n := by omega
      clear h
      go_wp2_with fail
      go_ret
      exact ⟨rfl, hB⟩
  · rw [Bool.eq_false_iff.2 hs]
    clear h
    go_wp2_with fail
    go_ret
    exact ⟨rfl, hB⟩

theorem termright_any (v0 v1 v2 v3 : Value) (W : World) {H : Type} {enc : TypeId × Value → H} {base : Nat} {d0 d1 d2 d3 : DataW H} {p0 p1 p2 p3 : List MemPlace} (hv0 : Value.okWide Try.prog W .any base 22 v0) (ht0 : DataW.Trod enc Try.prog W 0 (fun _ => true) true 22 v0 d0 p0)
    (hv1 : Value.okWide Try.prog W .any base 23 v1) (ht1 : DataW.Trod enc Try.prog W 0 (fun _ => true) true 23 v1 d1 p1) (hv2 : Value.okWide Try.prog W .any base 23 v2) (ht2 : DataW.Trod enc Try.prog W 0 (fun _ => true) true 23 v2 d2 p2)
    (hv3 : Value.okWide Try.prog W .any base 23 v3) (ht3 : DataW.Trod enc Try.prog W 0 (fun _ => true) true 23 v3 d3 p3) :
    Calls Try.prog 3 #[v0, v1, v2, v3] W fun e w' => e = .returned (.bool true) ∧ Below W.heap.size W w' := by
  obtain ⟨ts, A, c, rfl, hc, hcm, ht⟩ := open_terms hv0 ht0
  obtain ⟨k, B, d, rfl, hd, hdm, hk⟩ := open_bytes hv1 ht1
  obtain ⟨m, C, e, rfl, he, hem, hm⟩ := open_bytes hv2 ht2
  obtain ⟨g, D, f, rfl, hf, hfm, hg⟩ := open_bytes hv3 ht3
  by_cases h : shortT (conT ts) = true ∧ k.length ≤ 3000 ∧ m.length ≤ 3000 ∧ g.length ≤ 3000
  · exact termright_core ts k m g _ _ _ _ A B C D c d e f W (Lib.hid rfl) (Lib.hid rfl) (Lib.hid rfl) (Lib.hid rfl) ht hk hm hg hc h.2.1 h.2.2.1 h.2.2.2 (Lib.hid h.1)
  · exact termright_out ts _ _ _ _ A B C D c d e f W (Lib.hid rfl) ht (by omega) (by omega) (by omega) (by omega) h

theorem termfound_any (v0 v1 v2 v3 : Value) (W : World) {H : Type} {enc : TypeId × Value → H} {base : Nat} {d0 d1 d2 d3 : DataW H} {p0 p1 p2 p3 : List MemPlace} (hv0 : Value.okWide Try.prog W .any base 22 v0) (ht0 : DataW.Trod enc Try.prog W 0 (fun _ => true) true 22 v0 d0 p0)
    (hv1 : Value.okWide Try.prog W .any base 23 v1) (ht1 : DataW.Trod enc Try.prog W 0 (fun _ => true) true 23 v1 d1 p1) (hv2 : Value.okWide Try.prog W .any base 23 v2) (ht2 : DataW.Trod enc Try.prog W 0 (fun _ => true) true 23 v2 d2 p2)
    (hv3 : Value.okWide Try.prog W .any base 38 v3) (ht3 : DataW.Trod enc Try.prog W 0 (fun _ => true) true 38 v3 d3 p3) :
    Calls Try.prog 4 #[v0, v1, v2, v3] W fun e w' => e = .returned (.bool true) ∧ Below W.heap.size W w' := by
  obtain ⟨ts, A, c, rfl, hc, hcm, ht⟩ := open_terms hv0 ht0
  obtain ⟨k, B, d, rfl, hd, hdm, hk⟩ := open_bytes hv1 ht1
  obtain ⟨m, C, e, rfl, he, hem, hm⟩ := open_bytes hv2 ht2
  obtain ⟨ps, D, f, rfl, hf, hfm, hps, hpo, hpm⟩ := open_lists hv3 ht3
  by_cases h : shortT (conT ts) = true ∧ k.length ≤ 3000 ∧ m.length ≤ 3000 ∧ ps.length ≤ 20
  · exact termfound_core ts k m ps _ _ _ A B C D c d e f W (Lib.hid rfl) (Lib.hid rfl) (Lib.hid rfl) ht hk hm hps hpo hpm hc h.2.1 h.2.2.1 h.2.2.2 (Lib.hid h.1)
  · exact termfound_out ts _ _ _ _ A B C D c d e f W (Lib.hid rfl) ht (by omega) (by omega) (by omega) (by omega) h
end Go.Proofs.Ytppdfldmbfddnaa
