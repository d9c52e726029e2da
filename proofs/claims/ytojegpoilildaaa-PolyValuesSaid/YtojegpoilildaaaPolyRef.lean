/-
  What the reference's calls of layer 8 answer: At, Plain, Add, Eval, shift, Times. No conditions but those typed.
-/
import Derived.Test.YtojegpoilildaaaPolyTab
import Derived.Test.YtojegpoilildaaaGfRef
import Derived.Test.YtojegpoilildaaaOwn
import Derived.Test.YtojegpoilildaaaWordWords
import Derived.Deep.DeepCutAuto
namespace Go.Proofs.Ytojegpoilildaaa
set_option maxRecDepth 100000
open Go.RowKit
set_option linter.unusedSimpArgs false
set_option linter.unusedVariables false

/-- A call that hands back a list of bytes. -/
def RetQ (w : World) (l : List UInt8) (e : Ending) (w' : World) : Prop := ∃ A n c, e = .returned (.slice A n c) ∧ Hid (l.length = n) ∧ n ≤ c ∧ Rd vB w' A l ∧ Below w.heap.size w w'
theorem RetQ.own {w w' : World} {l : List UInt8} {base : Nat} {e : TypeId} {v : Value} {n : Nat} (hn : l.length = n) (h : w'.ownsRow base e 1 v n (l.map vB)) (hb : Below w.heap.size w w') : RetQ w l (.returned v) w' := by
  subst hn
  obtain ⟨A, c, rfl, hc, hr⟩ := own_slice h
  exact ⟨A, l.length, c, rfl, rfl, hc, hr, hb⟩

theorem refat_any (p : List UInt8) (k n : Nat) (A : Option Addr) (c : Nat) (w : World) (HN : Hid (p.length = n)) (hr : Rd vB w A p) :
    Calls Try.prog 28 #[.slice A n c, .int .i64 (k : Int)] w fun e w' => e = .returned (.int .u8 ((co p k).toNat : Int)) ∧ w = w' := by
  have e1 := HN.out
  subst e1
  have i0 : ¬ (k : Int) < 0 := by omega
  have i1 : (0 : Int) ≤ (k : Int) := by omega
  by_cases h : k < p.length
  · obtain ⟨b, o, rfl, hb, hcell⟩ := hr.at h
    have hc := hcell k h
    have HC := Lib.hid (co_lt p k h)
    unfold vB at hc
    have j0 : ¬ (p.length : Int) ≤ (k : Int) := by omega
    have j2 : (k : Int) < (p.length : Int) := by omega
    have j1 : ¬ p.length ≤ k := by omega
    rw [HC.out]
    generalize p[k] = x at hc
    clear hcell HC hr
    go_enter Try.func28, Try.ntmps28
    go_wp2_with fail
    go_ret
    exact ⟨rfl, rfl⟩
  · have j0 : (p.length : Int) ≤ (k : Int) := by omega
    have j1 : p.length ≤ k := by omega
    rw [co_ge p k j1]
    go_enter Try.func28, Try.ntmps28
    go_wp2_with fail
    go_ret
    exact ⟨rfl, rfl⟩

/-! ### Plain -/
set_option maxHeartbeats 1000000 in
theorem refplain_any (p : List UInt8) (n : Nat) (A : Option Addr) (c : Nat) (w : World) (HN : Hid (p.length = n)) (hr : Rd vB w A p) (hc : n ≤ c) (hn : n ≤ 1000000) :
    Calls Try.prog 8 #[.slice A n c] w (RetQ w (plainL p)) := by
  obtain ⟨i0, hi, hz0, hz1, hz2⟩ := info_parts info_u8
  go_enter Try.func8, Try.ntmps8
  go_wp2_with fail
  go_loopw [3] (fun i wr => ∃ k : Nat, k ≤ n ∧ i = .int .i64 (k : Int) ∧ (∀ j, k ≤ j → co p j = 0) ∧ w = wr) (fun i _ => (intOf i).toNat)
  case atStart => exact ⟨n, Nat.le_refl _, rfl, fun j hj => co_ge p j (by rw [HN.out]; exact hj), rfl⟩
  case round =>
    obtain ⟨k, hk, rfl, hz, rfl⟩ := hrel
    have HZ := Lib.hid hz
    clear hz
    have done : ∀ (hfin : k = 0 ∨ co p (k - 1) ≠ 0), plainL p = p.take k := fun hfin => plain_take p k (by rw [HN.out]; exact hk) HZ.out hfin
    have HD := Lib.hid done
    clear done
    have htk : Rd vB (w.alloc (.cells #[] 5)) A (p.take k) := (hr.take k).keep (below_new (Below.refl _ _) _)
    have hlk : (p.take k).length = k := by rw [List.length_take, HN.out]; omega
    have HLK := Lib.hid hlk
    clear hlk
    have hown0 : (w.alloc (.cells #[] 5)).ownsRow w.heap.size 5 1 (.slice (some ⟨w.heap.size, 0, none⟩) 0 0) 0 [] := World.ownsRow_made w #[] 0 (Nat.le_refl _) (by unfold maxLen; omega) rfl
    have hB0 := below_new (Below.refl _ w) (.cells #[] 5)
    have hcut := run_cut_to 22 5 Try.underlying22 size_uint8 A n c k (by omega) (w.alloc (.cells #[] 5))
    by_cases h0 : k = 0
    · subst h0
      have HP := Lib.hid (HD.out (.inl rfl))
      have hcut0 : (Instr.slice 22 (.slice A n c) none (some (.int .i64 0)) none).run Try.prog (w.alloc (.cells #[] 5)) = .ok (.slice A 0 c) (w.alloc (.cells #[] 5)) := hcut
      clear HD HZ hcut
      go_wp2_with (at_builtin; refine wpList_append_rd _ rfl (.tmp 18) (.tmp 21) 22 rfl w.heap.size 5 i0 (.int .u8 0) 1 Try.underlying22 hi hz0 hz1 hz2 rfl _ _ _ rfl hown0 A (p.take 0) c (by rw [HLK.out]; rfl) htk vB_one (by rw [HLK.out]; unfold maxLen; omega) (by rw [HLK.out]; omega) (by simp) ?_; intro v1 w1 hown1 hgrow1)
      go_ret
      rw [HP.out]
      rw [Nat.zero_add, List.nil_append] at hown1
      exact RetQ.own rfl hown1 (hB0.grown hgrow1 (by simp) (fun k hk => (hown0.lt k hk).1))
    · obtain ⟨m, rfl⟩ : ∃ m, k = m + 1 := ⟨k - 1, by omega⟩
      have hm : m < p.length := by rw [HN.out]; omega
      obtain ⟨b, o, rfl, hb, hcell⟩ := hr.at hm
      have hc0 := hcell m hm
      have HC := Lib.hid (co_lt p m hm)
      unfold vB at hc0
      have i1 : (0 : Int) < (m : Int) + 1 := by omega
      have i2 : (0 : Int) ≤ (m : Int) := by omega
      have i3 : (m : Int) < (n : Int) := by omega
      by_cases hx : p[m] = 0
      · have hz' : Hid (∀ j, m ≤ j → co p j = 0) := fun j hj => by
          rcases Nat.eq_or_lt_of_le hj with e | e
          · rw [← e, HC.out, hx]
          · exact HZ.out j e
        rw [hx] at hc0
        have hc1 : w.cell? ⟨b, o + m, none⟩ = some (.int .u8 0) := hc0
        clear HD HZ hcell HC hc0 hx htk hown0 hcut hB0
        go_wp2_with fail
        go_roundw
        case rel => exact ⟨m, by omega, by go_num, hz'.out, by simp⟩
        case measure => simp [intOf] <;> omega
      · have HP := Lib.hid (HD.out (.inr (by rw [Nat.add_sub_cancel, HC.out]; exact hx)))
        have hne : ((p[m].toNat : Int) == 0) = false := by
          have : p[m].toNat ≠ 0 := fun e => hx (UInt8.toNat_inj.1 e)
          simp
          omega
        generalize p[m] = x at hc0 hne
        clear HD HZ hcell HC hx
        go_wp2_with (at_builtin; refine wpList_append_rd _ rfl (.tmp 18) (.tmp 21) 22 rfl w.heap.size 5 i0 (.int .u8 0) 1 Try.underlying22 hi hz0 hz1 hz2 rfl _ _ _ rfl hown0 _ (p.take (m + 1)) c (by rw [HLK.out]; rfl) htk vB_one (by rw [HLK.out]; unfold maxLen; omega) (by rw [HLK.out]; omega) (by simp) ?_; intro v1 w1 hown1 hgrow1)
        go_ret
        rw [HP.out]
        rw [Nat.zero_add, List.nil_append] at hown1
        exact RetQ.own rfl hown1 (hB0.grown hgrow1 (by simp) (fun k hk => (hown0.lt k hk).1))

/-! ### Add -/
def TabRel (f : Nat → UInt8) (lo hi : Nat) (w : World) (v i : Value) (wr : World) : Prop :=
  ∃ k : Nat, k ≤ hi ∧ i = .int .i64 ((k + lo : Nat) : Int) ∧ wr.ownsRow w.heap.size 5 1 v k ((tabL f k).map vB) ∧ Below w.heap.size w wr
theorem tab_round {f : Nat → UInt8} {lo hi k : Nat} {w wr w1 : World} {u v : Value} {o : Obj} {x : UInt8} (hk : k < hi) (ho : wr.ownsRow w.heap.size 5 1 u k ((tabL f k).map vB)) (hb : Below w.heap.size w wr) (hx : f k = x)
    (hg : (wr.alloc o).grownBy w1 u.ownBlock) (ho' : w1.ownsRow w.heap.size 5 1 v (k + 1) ((tabL f k).map vB ++ [Value.int .u8 (x.toNat : Int)])) : TabRel f lo hi w v (.int .i64 ((k + 1 + lo : Nat) : Int)) w1 :=
  ⟨k + 1, hk, rfl, by subst hx; rw [tabL, List.map_append]; exact ho', (hb.alloc hb.size o).grown hg (by have := hb.size; simp; omega) (fun g hk => (ho.lt g hk).1)⟩

set_option maxHeartbeats 1000000 in
theorem refadd_any (p q : List UInt8) (n m : Nat) (A B : Option Addr) (c d : Nat) (w : World) (HN : Hid (p.length = n)) (HM : Hid (q.length = m)) (hp : Rd vB w A p) (hq : Rd vB w B q) (hn : n ≤ 100000) (hm : m ≤ 100000) :
    Calls Try.prog 11 #[.slice A n c, .slice B m d] w (RetQ w (plainL (addL p q))) := by
  obtain ⟨i0, hi, hz0, hz1, hz2⟩ := info_parts info_u8
  have HF : Hid (∀ k, co (addL p q) k = xorB (co p k) (co q k)) := fun k => co_add p q k
  have HL : Hid (plainL (tabL (co (addL p q)) (max n m)) = plainL (addL p q)) := plain_tab _ _ (by rw [addL_length, HN.out, HM.out]; exact Nat.le_refl _)
  generalize addL p q = R at HF HL ⊢
  go_enter Try.func11, Try.ntmps11
  go_wp2_with fail
  go_loopw [5, 6] (fun v i wr => TabRel (co R) 0 (max n m) w v i wr) (fun _ i _ => max n m - (intOf i).toNat)
  case atStart => exact ⟨0, Nat.zero_le _, rfl, World.ownsRow_nil _ _ _ _, Below.refl _ _⟩
  case round =>
    obtain ⟨k, hk, rfl, hown1, hbel1⟩ := hrel
    simp only [Nat.add_zero] at *
    have hv := hown1
    by_cases h : k < max n m
    · have HX := Lib.hid (HF.out k)
      obtain ⟨x, hx⟩ : ∃ x, co p k = x := ⟨_, rfl⟩
      obtain ⟨y, hy⟩ : ∃ y, co q k = y := ⟨_, rfl⟩
      have hA : ∀ w', Below w.heap.size w w' → Calls Try.prog 28 #[.slice A n c, .int .i64 (k : Int)] w' fun e w'' => e = .returned (.int .u8 (x.toNat : Int)) ∧ w' = w'' := fun w' hb => by rw [← hx]; exact refat_any p k n A c w' HN (hp.keep hb)
      have hBq : ∀ w', Below w.heap.size w w' → Calls Try.prog 28 #[.slice B m d, .int .i64 (k : Int)] w' fun e w'' => e = .returned (.int .u8 (y.toNat : Int)) ∧ w' = w'' := fun w' hb => by rw [← hy]; exact refat_any q k m B d w' HM (hq.keep hb)
      rw [hx, hy] at HX
      have hxr := u8_xor_b x y
      generalize xorB x y = z at HX hxr
      have HA := Lib.hid hA
      have HB := Lib.hid hBq
      clear hA hBq hx hy
      have i1 : (k : Int) < (n : Int) ∨ (k : Int) < (m : Int) := by omega
      have hle := hbel1.size
      have HX' : Hid (co R k = z) := HX.out
      have arm : ∀ (u : Value) (w1 : World) , True := fun _ _ => trivial
      clear arm HX
      by_cases h1 : k < n
      · have j1 : (k : Int) < (n : Int) := by omega
        clear i1
        go_wp2_with fail
        refine (HA.out _ hbel1).mono ?_
        rintro e w' ⟨rfl, rfl⟩
        go_wp2_with fail
        refine (HB.out _ hbel1).mono ?_
        rintro e w' ⟨rfl, rfl⟩
        go_wp2_with ((at_builtin; refine wpList_append_own _ rfl _ _ 22 rfl w.heap.size 5 i0 (.int .u8 0) 1 1 Try.underlying22 hi hz0 hz1 hz2 rfl (by decide) _ _ _ rfl (hown1.alloc _) ⟨wr.heap.size, 0, none⟩ 1 1 [.int .u8 (z.toNat : Int)] rfl rfl (cell_one_new _ _ _) (by intro u hu; simp at hu; subst hu; rfl) (by unfold maxLen; omega) (by omega) (by simp; omega) ?_; intro v' w1 hown' hgrow' _))
        go_roundw
        case rel => exact tab_round (lo := 0) h hown1 hbel1 HX'.out hgrow' hown'
        case measure => simp [intOf]; omega
      · have j1 : ¬ (k : Int) < (n : Int) := by omega
        have j2 : (k : Int) < (m : Int) := by omega
        clear i1
        go_wp2_with fail
        refine (HA.out _ hbel1).mono ?_
        rintro e w' ⟨rfl, rfl⟩
        go_wp2_with fail
        refine (HB.out _ hbel1).mono ?_
        rintro e w' ⟨rfl, rfl⟩
        go_wp2_with ((at_builtin; refine wpList_append_own _ rfl _ _ 22 rfl w.heap.size 5 i0 (.int .u8 0) 1 1 Try.underlying22 hi hz0 hz1 hz2 rfl (by decide) _ _ _ rfl (hown1.alloc _) ⟨wr.heap.size, 0, none⟩ 1 1 [.int .u8 (z.toNat : Int)] rfl rfl (cell_one_new _ _ _) (by intro u hu; simp at hu; subst hu; rfl) (by unfold maxLen; omega) (by omega) (by simp; omega) ?_; intro v' w1 hown' hgrow' _))
        go_roundw
        case rel => exact tab_round (lo := 0) h hown1 hbel1 HX'.out hgrow' hown'
        case measure => simp [intOf]; omega
    · have hkm : k = max n m := by omega
      have j1 : ¬ (k : Int) < (n : Int) := by omega
      have j2 : ¬ (k : Int) < (m : Int) := by omega
      obtain ⟨l, hl⟩ : ∃ l, l = tabL (co R) k := ⟨_, rfl⟩
      have HLen : Hid (l.length = k) := by unfold Hid; rw [hl]; exact tab_length _ _
      have HPl : Hid (plainL l = plainL R) := by unfold Hid; rw [hl, hkm]; exact HL.out
      rw [← hl] at hown1
      have hk2 : k ≤ 100000 := by omega
      clear hkm
      have hown2 := hown1
      rw [← HLen.out] at hown2
      obtain ⟨A1, c1, hv1, hc1, hr1⟩ := own_slice hown2
      rw [HLen.out] at hc1 hv1
      subst hv1
      clear hown1 hown2 hl hv
      go_wp2_with fail
      refine (refplain_any l k A1 c1 _ HLen hr1 hc1 (by omega)).mono ?_
      rintro e w1 ⟨A2, n2, c2, rfl, HN2, hc2, hr2, hb2⟩
      rw [HPl.out] at HN2 hr2
      go_wp2_with fail
      go_ret
      exact ⟨A2, n2, c2, rfl, HN2, hc2, hr2, below_step hbel1 hb2⟩
end Go.Proofs.Ytojegpoilildaaa
