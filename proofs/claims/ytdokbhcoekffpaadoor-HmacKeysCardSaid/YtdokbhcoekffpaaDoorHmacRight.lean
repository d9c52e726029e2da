/-
  The walk of the law HmacRight: any key's block, and any text's tag by any key, are the document's. Condition: the package's table holds the sixty-four constants, as the row lists it.
-/
import Derived.Test.YtdokbhcoekffpaaDoorHmacRef
import Derived.Test.YtdokbhcoekffpaaDoorHmacAwake
import Derived.Test.YtdokbhcoekffpaaDoorShaOpen
import Derived.Test.YtdokbhcoekffpaaDoorLaid
namespace Go.Proofs.YtdokbhcoekffpaaDoor
open Go.RowKit
set_option linter.unusedSimpArgs false
set_option linter.unusedVariables false

theorem str_later (n : Nat) {w : World} {A : Option Addr} {l : List UInt8} {c : Nat} (H : Hid (l.length = n)) (h : Rd vB w A l) : ∀ W, Below w.heap.size w W → (convert 24 9 (.slice A n c)).run Tryd.prog W = .ok (.string ⟨l.toArray⟩) W :=
  fun W hW => run_str W _ _ _ Tryd.underlying24 Tryd.underlying5 Tryd.underlying9 A l n c H.out (h.keep hW)

set_option maxRecDepth 100000 in
set_option maxHeartbeats 2000000 in
theorem hmacright_core (key msg : List UInt8) (A B : Option Addr) (c d : Nat) (w : World) (hr : Rd vB w A key) (hm : Rd vB w B msg) (hc : key.length ≤ c) (hl : key.length ≤ 2000) (hml : msg.length ≤ 2000) (HK : Hid (KTab w)) :
    Calls Tryd.prog 4 #[.slice A key.length c, .slice B msg.length d] w fun e w' => e = .returned (.bool true) ∧ Below w.heap.size w w' := by
  have g1 : decide ((2000 : Int) < (key.length : Int)) = false := by simp; omega
  have g2 : decide ((2000 : Int) < (msg.length : Int)) = false := by simp; omega
  go_enter Tryd.func4, Tryd.ntmps4
  go_wp2_with fail
  refine (awake3_any _ HK).mono ?_
  rintro e w1 ⟨rfl, hB⟩
  go_wp2_with fail
  clear g1 g2
  have HX : Hid ((hblk key).length = 64) := hblk_length key
  have HY : Hid ((macL key msg).length = 32) := macL_length key msg
  have hBase : Below w1.heap.size w1 w1.drew := (Below.refl _ _).drew
  refine wp_region_plan (.step 0 false (.step 3 false (.step 1 true (.step 2 false (.step 4 true (.step 5 false (.step 6 false (.step 7 false (.step 8 false (.step 9 false (.step 12 false (.step 13 false (.step 10 true (.step 11 false (.step 14 true (.step 15 false (.step 16 false (.step 17 false (.step 18 false (.nil)))))))))))))))))))) (by kernel_rfl) (by kernel_rfl) (by rfl) (by kernel_rfl) ?_
  iterate 2 (refine plan_read rfl (by rfl) (v := ?_) ?_ ?_; rotate_left 1; (intro W hW; have hW0 := below_step hBase hW; (try dsimp only at hW); go_simp <;> with_reducible rfl); simp only [List.getElem_toArray, List.getElem_cons_zero, List.getElem_cons_succ, Act.put, List.setIfInBounds_toArray, List.set_cons_zero, List.set_cons_succ])
  (refine plan_make rfl (by rfl) (fun K hK => ?_); go_simp; (refine (hblock_any _ key _ _ _ (Lib.hid rfl) (hr.keep (by exact below_step hB hBase)) hc (by omega) (Lib.hid (HK.out.keep (by exact below_step hB hBase)))).mono ?_; rintro e w2 ⟨A2, c2, rfl, hc2, hr2, hbx⟩); refine hK.out _ _ hbx ?_; clear hK K; replace hBase := below_step hBase hbx)
  have hs1 := str_later (c := c2) 64 HX hr2
  iterate 1 (refine plan_read rfl (by rfl) (v := ?_) ?_ ?_; rotate_left 1; (intro W hW; have hW0 := below_step hBase hW; (try dsimp only at hW); go_simp <;> with_reducible rfl); simp only [List.getElem_toArray, List.getElem_cons_zero, List.getElem_cons_succ, Act.put, List.setIfInBounds_toArray, List.set_cons_zero, List.set_cons_succ])
  clear hs1
  (refine plan_make rfl (by rfl) (fun K hK => ?_); go_simp; (refine (refhblock_any _ key _ _ _ (Lib.hid rfl) (hr.keep (by exact below_step hB hBase)) (by omega)).mono ?_; rintro e w3 ⟨A3, c3, rfl, hc3, hr3, hbx⟩); refine hK.out _ _ hbx ?_; clear hK K; replace hBase := below_step hBase hbx)
  have hs2 := str_later (c := c3) 64 HX hr3
  iterate 7 (refine plan_read rfl (by rfl) (v := ?_) ?_ ?_; rotate_left 1; (intro W hW; have hW0 := below_step hBase hW; (try dsimp only at hW); go_simp <;> with_reducible rfl); simp only [List.getElem_toArray, List.getElem_cons_zero, List.getElem_cons_succ, Act.put, List.setIfInBounds_toArray, List.set_cons_zero, List.set_cons_succ])
  clear hs2
  (refine plan_make rfl (by rfl) (fun K hK => ?_); go_simp; (refine (mac_any _ _ key msg _ _ _ _ _ (Lib.hid rfl) (Lib.hid rfl) (hr.keep (by exact below_step hB hBase)) (hm.keep (by exact below_step hB hBase)) hc (by omega) (by omega) (Lib.hid (HK.out.keep (by exact below_step hB hBase)))).mono ?_; rintro e w4 ⟨A4, c4, rfl, hc4, hr4, hbx⟩); refine hK.out _ _ hbx ?_; clear hK K; replace hBase := below_step hBase hbx)
  have hs3 := str_later (c := c4) 32 HY hr4
  iterate 1 (refine plan_read rfl (by rfl) (v := ?_) ?_ ?_; rotate_left 1; (intro W hW; have hW0 := below_step hBase hW; (try dsimp only at hW); go_simp <;> with_reducible rfl); simp only [List.getElem_toArray, List.getElem_cons_zero, List.getElem_cons_succ, Act.put, List.setIfInBounds_toArray, List.set_cons_zero, List.set_cons_succ])
  clear hs3
  (refine plan_make rfl (by rfl) (fun K hK => ?_); go_simp; (refine (refmac_any _ _ key msg _ _ _ _ _ (Lib.hid rfl) (Lib.hid rfl) (hr.keep (by exact below_step hB hBase)) (hm.keep (by exact below_step hB hBase)) (by omega) (by omega)).mono ?_; rintro e w5 ⟨A5, c5, rfl, hc5, hr5, hbx⟩); refine hK.out _ _ hbx ?_; clear hK K; replace hBase := below_step hBase hbx)
  have hs4 := str_later (c := c5) 32 HY hr5
  iterate 4 (refine plan_read rfl (by rfl) (v := ?_) ?_ ?_; rotate_left 1; (intro W hW; have hW0 := below_step hBase hW; (try dsimp only at hW); go_simp <;> with_reducible rfl); simp only [List.getElem_toArray, List.getElem_cons_zero, List.getElem_cons_succ, Act.put, List.setIfInBounds_toArray, List.set_cons_zero, List.set_cons_succ])
  refine plan_done ?_
  go_wp2_with fail
  go_ret
  exact ⟨rfl, below_step hB hBase⟩

set_option maxRecDepth 100000 in
theorem hmacright_big (n m : Nat) (A B : Option Addr) (c d : Nat) (w : World) (h : ¬ (n ≤ 2000 ∧ m ≤ 2000)) (hn : n ≤ 9223372036854775807) (hm : m ≤ 9223372036854775807) (HK : Hid (KTab w)) :
    Calls Tryd.prog 4 #[.slice A n c, .slice B m d] w fun e w' => e = .returned (.bool true) ∧ Below w.heap.size w w' := by
  go_enter Tryd.func4, Tryd.ntmps4
  go_wp2_with fail
  refine (awake3_any _ HK).mono ?_
  rintro e w1 ⟨rfl, hB⟩
  by_cases h1 : n ≤ 2000
  · have g1 : decide ((2000 : Int) < (n : Int)) = false := by simp; omega
    have g2 : decide ((2000 : Int) < (m : Int)) = true := by simp; omega
    go_wp2_with fail
    go_ret
    exact ⟨rfl, hB⟩
  · have g1 : decide ((2000 : Int) < (n : Int)) = true := by simp; omega
    go_wp2_with fail
    go_ret
    exact ⟨rfl, hB⟩

theorem hmacright_any (v0 v1 : Value) (W : World) {H : Type} {enc : TypeId × Value → H} {base : Nat} {d0 d1 : DataW H} {p0 p1 : List MemPlace} (hv0 : Value.okWide Tryd.prog W .any base 24 v0) (ht0 : DataW.Trod enc Tryd.prog W 0 (fun _ => true) true 24 v0 d0 p0)
    (hv1 : Value.okWide Tryd.prog W .any base 24 v1) (ht1 : DataW.Trod enc Tryd.prog W 0 (fun _ => true) true 24 v1 d1 p1) (hk : KTab W) :
    Calls Tryd.prog 4 #[v0, v1] W fun e w' => e = .returned (.bool true) ∧ Below W.heap.size W w' := by
  obtain ⟨b, A, c, rfl, hc, hcm, hr⟩ := open_bytes hv0 ht0
  obtain ⟨m, B, d, rfl, hd, hdm, hm⟩ := open_bytes hv1 ht1
  by_cases h : b.length ≤ 2000 ∧ m.length ≤ 2000
  · exact hmacright_core b m A B c d W hr hm hc h.1 h.2 (Lib.hid hk)
  · exact hmacright_big b.length m.length A B c d W h (by omega) (by omega) (Lib.hid hk)
end Go.Proofs.YtdokbhcoekffpaaDoor
