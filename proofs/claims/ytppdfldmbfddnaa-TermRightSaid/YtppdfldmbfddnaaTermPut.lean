/-
  What the reference's calls Put and Of of layer 5 answer. No conditions but those typed.
-/
import Derived.Test.YtppdfldmbfddnaaTermRef
import Derived.Deep.DeepCutAuto
namespace Go.Proofs.Ytppdfldmbfddnaa
open Go.RowKit
set_option linter.unusedSimpArgs false
set_option linter.unusedVariables false

theorem Rd.newsB {α : Type} {f : α → Value} {w : World} {A : Option Addr} {l : List α} (h : Rd f w A l) : l.map f ≠ [] → ∃ b o, A = some ⟨b, o, none⟩ ∧ ∀ j u, (l.map f)[j]? = some u → w.cell? ((⟨b, o, none⟩ : Addr).add j) = some u := fun hn => by
  obtain ⟨b, o, e, _⟩ := h (by rintro rfl; exact hn rfl)
  subst e
  exact ⟨b, o, rfl, h.news⟩
theorem ownsRow2_later {w w' : World} {base m : Nat} {e : TypeId} {v : Value} {n : Nat} {xs : List Value} (h : w.ownsRow base e m v n xs) (hb : Below w.heap.size w w') : w'.ownsRow base e m v n xs := by
  refine ⟨h.1, ?_⟩
  rcases h.2 with h0 | ⟨g, cap, cur, hv, hg, hc, r⟩
  · exact .inl h0
  · exact .inr ⟨g, cap, cur, hv, hg, (hb.block g (Array.getElem?_eq_some_iff.1 hc).1).trans hc, r⟩

/-- What Put hands back. -/
def PutRes (ts : List TD) (x : Tm) (w : World) (e : Ending) (w' : World) : Prop :=
  ∃ (us : List TD) (p : Nat) (A : Option Addr) (c : Nat) (tA : Option Addr) (tc : Nat), e = .returned (.tuple #[.slice A p c, .slice tA 8 tc]) ∧ Hid (us.length = p) ∧ p ≤ c ∧ 8 ≤ tc ∧ RdT w' A us ∧ okT w' us ∧ Hid (conT us = putT (conT ts) x) ∧ Rd vB w' tA (tagT (conT ts) x) ∧ Below w.heap.size w w'

theorem refput_at (v : Nat) (l : List UInt8) (hv : v < 18446744073709551616) (HL : Hid (putL v = l)) (w : World) :
    Calls Try.prog 18 #[.int .u64 (v : Int)] w fun e w' => ∃ A c, e = .returned (.slice A 8 c) ∧ 8 ≤ c ∧ Rd vB w' A l ∧ Below w.heap.size w w' := by
  refine (refput_any v hv w).mono ?_
  rintro e w' ⟨A, c, rfl, hc, hr, hb⟩
  rw [HL.out] at hr
  exact ⟨A, c, rfl, hc, hr, hb⟩

set_option maxRecDepth 100000 in
set_option maxHeartbeats 1000000 in
theorem refputT_any (ts : List TD) (key msg : List UInt8) (p n m : Nat) (A B C : Option Addr) (c d e : Nat) (w : World) (HP : Hid (ts.length = p)) (HN : Hid (key.length = n)) (HM : Hid (msg.length = m)) (ht : RdT w A ts) (hok : okT w ts) (hk : Rd vB w B key) (hm : Rd vB w C msg) (hp : p ≤ 1000000000) (hc : p ≤ c) (hn : n ≤ 1000000000) (hmm : m ≤ 1000000000) :
    Calls Try.prog 8 #[.slice A p c, .slice B n d, .slice C m e] w (PutRes ts (key, msg) w) := by
  have HOK := Lib.hid hok
  clear hok
  by_cases hin : (key, msg) ∈ conT ts
  · have hlt := (idx_lt _ _).2 hin
    rw [conT_length, HP.out] at hlt
    have hpl := plI_in _ _ hin
    have HC : Hid (conT ts = putT (conT ts) (key, msg)) := (putT_twice _ _ hin).symm
    obtain ⟨tg, htg⟩ : ∃ tg, tg = tagT (conT ts) (key, msg) := ⟨_, rfl⟩
    have HT : Hid (putL (idx (key, msg) (conT ts) + 1) = tg) := htg.symm
    have HTG := Lib.hid htg
    clear htg
    generalize idx (key, msg) (conT ts) = q at hlt hpl HT
    have HPL := Lib.hid hpl
    have hge : (0 : Int) ≤ (q : Int) := by omega
    have hqw : IntKind.u64.wrap ((q : Int) + 1) = ((q + 1 : Nat) : Int) := by rw [IntKind.wrap_u64]; omega
    clear hpl hin
    go_enter Try.func8, Try.ntmps8
    go_wp2_with fail
    refine (refplace_any ts key msg p n m A B C c d e _ HP HN HM ht HOK.out hk hm hp).mono ?_
    rintro e' w1 ⟨rfl, hb1⟩
    rw [HPL.out]
    go_wp2_with fail
    refine (refput_at (q + 1) tg (by omega) HT _).mono ?_
    rintro e' w2 ⟨tA, tc, rfl, htc, htr, hb2⟩
    go_wp2_with fail
    go_ret2
    have hB := below_step hb1 hb2
    exact ⟨ts, p, A, c, tA, tc, rfl, HP, hc, htc, ht.keep hB, HOK.out.keep hB, HC, by rw [← HTG.out]; exact htr, hB⟩
  · obtain ⟨i0, hi, hz0, hz1, hz2⟩ := info_parts info_u8
    obtain ⟨j0, hj, gz0, gz1, gz2⟩ := info_parts info_term
    have HPL := Lib.hid (plI_out _ _ hin)
    have HC : Hid (conT ts ++ [(key, msg)] = putT (conT ts) (key, msg)) := (if_neg hin).symm
    have HT : Hid (putL (p + 1) = tagT (conT ts) (key, msg)) := by unfold Hid tagT; rw [idx_none _ _ hin, conT_length, HP.out]
    clear hin
    go_enter Try.func8, Try.ntmps8
    go_wp2_with fail
    refine (refplace_any ts key msg p n m A B C c d e _ HP HN HM ht HOK.out hk hm hp).mono ?_
    rintro e' w1 ⟨rfl, hb1⟩
    rw [HPL.out]
    have hown0 : (w1.alloc (.cells #[] 29)).ownsRow w.heap.size 29 2 (.slice (some ⟨w1.heap.size, 0, none⟩) 0 0) 0 [] := World.ownsRow_made w1 #[] 0 hb1.size (by unfold maxLen; omega) rfl
    have hB1 := below_new hb1 (.cells #[] 29)
    go_upto_region 5 with (at_builtin; refine wpList_append_gen _ rfl (.tmp 21) (.tmp 22) 22 rfl w.heap.size 29 j0 (.agg #[.slice none 0 0, .slice none 0 0]) 2 48 Try.underlying22 hj gz0 gz1 gz2 rfl (by decide) _ _ _ rfl hown0 A p c (cellsT ts) rfl (by rw [cellsT_length, HP.out]) (ht.keep hB1).news (cellsT_one ts) (by unfold maxLen; omega) (by omega) hB1.size ?_; intro v2 w2 hown2 hgrow2)
    rw [Nat.zero_add, List.nil_append] at hown2
    have hB2 : Below w.heap.size w w2 := hB1.grown hgrow2 (by have := hb1.size; simp; omega) (fun k hk => (hown0.lt k hk).1)
    clear hown0 hgrow2 hB1
    have hlt2 : ∀ k, v2.ownBlock = some k → k < w2.heap.size := fun k hk => (hown2.lt k hk).2
    have hn0 : (w2.alloc (.cells #[] 5)).ownsRow w2.heap.size 5 1 (.slice (some ⟨w2.heap.size, 0, none⟩) 0 0) 0 [] := World.ownsRow_made w2 #[] 0 (Nat.le_refl _) (by unfold maxLen; omega) rfl
    have hN0 := below_new (Below.refl _ w2) (.cells #[] 5)
    have hk2 : Rd vB (w2.alloc (.cells #[] 5)) B key := hk.keep (below_step hB2 hN0)
    go_upto_region 6 with (first
      | (at_builtin; refine wpList_append_gen _ rfl (.tmp 25) (.tmp 26) 23 rfl w2.heap.size 5 i0 (.int .u8 0) 1 1 Try.underlying23 hi hz0 hz1 hz2 rfl (by decide) _ _ _ rfl hn0 B n d (key.map vB) rfl (by rw [List.length_map, HN.out, Nat.mul_one]) hk2.newsB (map_one vB_one key) (by unfold maxLen; omega) (by omega) (by simp) ?_; intro v3 w3 hown3 hgrow3
         rw [Nat.zero_add, List.nil_append] at hown3
         have hS3 : Below w2.heap.size w2 w3 := hN0.grown hgrow3 (by simp) (fun k hk => (hn0.lt k hk).1)
         clear hn0 hN0 hk2 hgrow3
         have hn3 : (w3.alloc (.cells #[] 5)).ownsRow w3.heap.size 5 1 (.slice (some ⟨w3.heap.size, 0, none⟩) 0 0) 0 [] := World.ownsRow_made w3 #[] 0 (Nat.le_refl _) (by unfold maxLen; omega) rfl
         have hN3 := below_new (Below.refl _ w3) (.cells #[] 5)
         have hm3 : Rd vB (w3.alloc (.cells #[] 5)) C msg := hm.keep (below_step (below_step hB2 hS3) hN3))
      | (at_builtin; refine wpList_append_gen _ rfl (.tmp 28) (.tmp 29) 23 rfl w3.heap.size 5 i0 (.int .u8 0) 1 1 Try.underlying23 hi hz0 hz1 hz2 rfl (by decide) _ _ _ rfl hn3 C m e (msg.map vB) rfl (by rw [List.length_map, HM.out, Nat.mul_one]) hm3.newsB (map_one vB_one msg) (by unfold maxLen; omega) (by omega) (by simp) ?_; intro v4 w4 hown4 hgrow4
         rw [Nat.zero_add, List.nil_append] at hown4
         have hS4 : Below w3.heap.size w3 w4 := hN3.grown hgrow4 (by simp) (fun k hk => (hn3.lt k hk).1)
         clear hn3 hN3 hm3 hgrow4
         rw [← HN.out] at hown3
         rw [← HM.out] at hown4
         obtain ⟨A3, c3, rfl, hc3, hr3, hN3⟩ := own_sliceN hown3
         obtain ⟨A4, c4, rfl, hc4, hr4, hN4⟩ := own_sliceN hown4
         replace hr3 := hr3.keep hS4
         replace hown2 := ownsRow2_later hown2 (below_step hS3 hS4)
         replace hB2 := below_step hB2 (below_step hS3 hS4)
         have hz2 := hS3.size
         have hz3 := hS4.size
         clear hown3 hown4 hS3 hS4)
      | (at_builtin; refine wpList_append_gen _ rfl (.tmp 24) (.tmp 32) 22 rfl w.heap.size 29 j0 (.agg #[.slice none 0 0, .slice none 0 0]) 2 48 Try.underlying22 hj gz0 gz1 gz2 rfl (by decide) _ _ _ rfl (ownsRow2_later hown2 (below_new (Below.refl _ _) _)) (some ⟨w4.heap.size, 0, none⟩) 1 1 (TD.cells ⟨A3, c3, key, A4, c4, msg⟩) rfl rfl (fun _ => ⟨_, _, rfl, cells_new _ _ _⟩) (by intro u hu; simp [TD.cells, TD.at0, TD.at1] at hu; rcases hu with rfl | rfl <;> rfl) (by unfold maxLen; omega) (by omega) (by have := hB2.size; simp; omega) ?_; intro v5 w5 hown5 hgrow5))
    obtain ⟨X, hX⟩ : ∃ X : TD, X = ⟨A3, c3, key, A4, c4, msg⟩ := ⟨_, rfl⟩
    rw [← hX] at hown5
    have hXc : X.c = (key, msg) := by rw [hX]; rfl
    have hB5 : Below w.heap.size w w5 := (below_new hB2 (.cells (TD.cells ⟨A3, c3, key, A4, c4, msg⟩).toArray 29)).grown hgrow5 (by have := hB2.size; simp; omega) (fun k hk => (hown2.lt k hk).1)
    have hr3' := (hr3.keep (below_new (Below.refl _ w4) (.cells (TD.cells ⟨A3, c3, key, A4, c4, msg⟩).toArray 29))).grown hgrow5 (fun a ha e => by have := hlt2 _ e; have := hN3 _ ha; omega)
    have hr4' := (hr4.keep (below_new (Below.refl _ w4) (.cells (TD.cells ⟨A3, c3, key, A4, c4, msg⟩).toArray 29))).grown hgrow5 (fun a ha e => by have := hlt2 _ e; have := hN4 _ ha; omega)
    have hXok : X.ok w5 := by rw [hX]; exact ⟨hc3, hc4, hr3', hr4'⟩
    obtain ⟨us, hus⟩ : ∃ us, us = ts ++ [X] := ⟨_, rfl⟩
    have hul : us.length = p + 1 := by rw [hus, List.length_append, HP.out]; rfl
    have hcu : cellsT ts ++ TD.cells X = cellsT us := by rw [hus]; simp [cellsT]
    have HCU : Hid (conT us = putT (conT ts) (key, msg)) := by unfold Hid; rw [← HC.out, hus, ← hXc]; simp [conT]
    have HUO : Hid (okT w5 us) := by
      unfold Hid
      rw [hus]
      exact (HOK.out.keep hB5).app (fun x hx => by simp at hx; subst hx; exact hXok)
    rw [hcu, ← hul] at hown5
    obtain ⟨A5, c5, rfl, hc5, hr5⟩ := own_sliceT hown5
    have HUL := Lib.hid hul
    rw [hul] at hc5 ⊢
    clear hown5 hcu hus hul hXok hXc hX hr3 hr4 hr3' hr4' hgrow5 hown2 hlt2 hN3 hN4 hB2 hc3 hc4 hz2 hz3
    have hpw : IntKind.u64.wrap ((p : Int) + 1) = ((p + 1 : Nat) : Int) := by rw [IntKind.wrap_u64]; omega
    obtain ⟨tg, htg⟩ : ∃ tg, tg = tagT (conT ts) (key, msg) := ⟨_, rfl⟩
    rw [← htg] at HT
    have HTG := Lib.hid htg
    clear htg
    go_wp2_with fail
    refine (refput_at (p + 1) tg (by omega) HT _).mono ?_
    rintro e' w6 ⟨tA, tc, rfl, htc, htr, hb6⟩
    go_wp2_with fail
    go_ret2
    exact ⟨us, p + 1, A5, c5, tA, tc, rfl, HUL, hc5, htc, hr5.keep hb6, HUO.out.keep hb6, HCU, by rw [← HTG.out]; exact htr, below_step hB5 hb6⟩
end Go.Proofs.Ytppdfldmbfddnaa
