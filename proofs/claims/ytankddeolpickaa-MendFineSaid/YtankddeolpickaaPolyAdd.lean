/-
  What the program's call addTimes of layer 8 leaves: a polynomial to which another one, times an element, is added from a place on. No conditions but those typed.
-/
import Derived.Test.YtankddeolpickaaPolyDeg
import Derived.StillTailTactics
namespace Go.Proofs.Ytankddeolpickaa
set_option maxRecDepth 100000
open Go.RowKit
set_option linter.unusedSimpArgs false
set_option linter.unusedVariables false

theorem co_ext {p q : List UInt8} (hl : p.length = q.length) (h : ∀ k, k < p.length → co p k = co q k) : p = q := by
  apply List.ext_getElem hl
  intro i h1 h2
  have := h i h1
  rwa [co_lt p i h1, co_lt q i h2] at this
theorem co_set (l : List UInt8) (i k : Nat) (x : UInt8) (hi : i < l.length) : co (l.set i x) k = if k = i then x else co l k := by
  unfold co
  rw [List.getD_eq_getElem?_getD, List.getD_eq_getElem?_getD, List.getElem?_set]
  by_cases h : i = k
  · subst h
    rw [if_pos rfl, if_pos hi, if_pos rfl]
    rfl
  · rw [if_neg h, if_neg (fun e => h e.symm)]

/-- z added from place o on. -/
def atL (l : List UInt8) (o : Nat) (z : List UInt8) : List UInt8 := addL l (shiftL o z)
theorem at_length (l : List UInt8) (o : Nat) (z : List UInt8) (h : o + z.length ≤ l.length) : (atL l o z).length = l.length := by
  unfold atL
  rw [addL_length, shift_length]
  omega
theorem co_shift_low : ∀ (o : Nat) (z : List UInt8) (k : Nat), k < o → co (shiftL o z) k = 0
  | 0, _, _, h => absurd h (Nat.not_lt_zero _)
  | o + 1, z, 0, _ => rfl
  | o + 1, z, k + 1, h => by
    rw [shift_succ, co_succ]
    exact co_shift_low o z k (by omega)
theorem co_at (l : List UInt8) (o : Nat) (z : List UInt8) (k : Nat) : co (atL l o z) k = addB (co l k) (if k < o then 0 else co z (k - o)) := by
  unfold atL
  rw [co_add]
  split
  · next h => rw [co_shift_low o z k h]
  · next h =>
    have e : k = o + (k - o) := by omega
    conv => lhs; rw [e, co_shift, ← e]
theorem at_nil (l : List UInt8) (o : Nat) (h : o ≤ l.length) : atL l o [] = l := by
  refine co_ext (at_length l o [] (by simpa using h)) (fun k hk => ?_)
  rw [co_at]
  split
  · rw [add_zero]
  · rw [co_nil, add_zero]
theorem at_snoc (l : List UInt8) (o : Nat) (z : List UInt8) (x : UInt8) (h : o + z.length < l.length) :
    (atL l o z).set (o + z.length) (addB (co (atL l o z) (o + z.length)) x) = atL l o (z ++ [x]) := by
  have hl := at_length l o z (by omega)
  refine co_ext (by rw [List.length_set, hl, at_length l o (z ++ [x]) (by rw [List.length_append, List.length_singleton]; omega)]) (fun k hk => ?_)
  rw [co_set _ _ _ _ (by omega), co_at, co_at, co_at]
  split
  · next e =>
    subst e
    rw [if_neg (by omega), if_neg (by omega), Nat.add_sub_cancel_left, co_ge z _ (Nat.le_refl _), add_zero, co_snoc, if_neg (by omega), if_pos rfl]
  · next e =>
    split
    · rfl
    · rw [co_snoc]
      split
      · rfl
      · rw [if_neg (by omega), co_ge z _ (by omega)]

theorem co_pad (P : List UInt8) (r : Nat) (k : Nat) : co (P ++ List.replicate r 0) k = co P k := by
  rcases Nat.lt_or_ge k P.length with h | h
  · unfold co
    rw [List.getD_eq_getElem?_getD, List.getD_eq_getElem?_getD, List.getElem?_append_left h]
  · rw [co_ge P k h]
    unfold co
    rw [List.getD_eq_getElem?_getD, List.getElem?_append_right h, List.getElem?_replicate]
    split <;> rfl
/-- What a copy to the beginning of zeros leaves. -/
theorem pad_is (P : List UInt8) (M : Nat) (h : P.length ≤ M) : ((List.replicate M (0 : UInt8)).take 0 ++ P ++ (List.replicate M 0).drop (0 + P.length)).length = M ∧ Eqv ((List.replicate M (0 : UInt8)).take 0 ++ P ++ (List.replicate M 0).drop (0 + P.length)) P := by
  rw [List.take_zero, List.nil_append, List.drop_replicate]
  refine ⟨by rw [List.length_append, List.length_replicate]; omega, fun k => co_pad P _ k⟩
theorem at_one {T P Q p q : List UInt8} (h1 : Eqv T P) (h2 : Eqv P p) (h3 : Eqv Q q) : plainL (atL T 0 (scaleL 1 Q)) = plainL (addL p q) := plain_congr fun k => by
  rw [co_at, if_neg (Nat.not_lt_zero k), Nat.sub_zero, scale_one, h1 k, h2 k, h3 k, co_add]

theorem mul_snoc (c : UInt8) (Q : List UInt8) : ∀ A : List UInt8, Eqv (mulL (A ++ [c]) Q) (addL (mulL A Q) (shiftL A.length (scaleL c Q)))
  | [] => by
    rw [List.nil_append, mulL, mulL]
    exact (add_congr (Eqv.refl _) zero_cons).trans (addL_nil _)
  | a :: A => by
    rw [List.cons_append, mulL, mulL, List.length_cons, shift_succ]
    exact (add_congr (Eqv.refl _) (((mul_snoc c Q A).cons 0).trans (shift_add _ _))).trans (addL_assoc _ _ _).symm
/-- One round of a product. -/
theorem mul_round {T P Q : List UInt8} {k : Nat} (h : Eqv T (mulL (P.take k) Q)) (hk : k < P.length) : Eqv (atL T k (scaleL P[k] Q)) (mulL (P.take (k + 1)) Q) := by
  rw [List.take_succ_eq_append_getElem hk]
  refine Eqv.trans ?_ (mul_snoc P[k] Q (P.take k)).symm
  have : (P.take k).length = k := by rw [List.length_take]; omega
  rw [this]
  exact add_congr h (Eqv.refl _)
/-- The product of plain ones is plain. -/
theorem mul_plain_is {p q T : List UInt8} (hp : plainL p ≠ []) (hq : plainL q ≠ []) (hl : T.length = (plainL p).length + (plainL q).length - 1) (h : Eqv T (mulL (plainL p) (plainL q))) : T = plainL (mulL p q) := by
  have h1 : plainL (mulL p q) = plainL T := plain_congr (((mul_congr (plain_eqv p) (plain_eqv q)).symm).trans h.symm)
  have h2 := mul_plain_len p q hp hq
  rw [h1] at h2 ⊢
  have h3 := plain_is_take T
  rw [h2, ← hl, List.take_length] at h3
  exact h3.symm
/-- 's[k:]' of a slice whose block is known. -/
theorem run_cut_at {P : Program} (t e : TypeId) (ht : P.underlying t = some (.slice e)) (hz : ∀ w, (sizeOf e).run P w = .ok 1 w) (g o n cap k : Nat) (hk : k ≤ n) (hc : n ≤ cap) (hkc : k < cap) (w : World) :
    (Instr.slice t (.slice (some ⟨g, o, none⟩) n cap) (some (.int .i64 (k : Int))) none none).run P w = .ok (.slice (some ⟨g, o + k, none⟩) (n - k) (cap - k)) w := by
  have ht' : P.underlying t = some (.slice (P.elem t)) := by simp [Program.elem, ht]
  have he : P.elem t = e := by simp [Program.elem, ht]
  rw [run_slice_l w t (some ⟨g, o, none⟩) n cap ht' .i64 (k : Int) (by omega) (by omega), he, hz]
  have : ¬ cap = k := by omega
  simp [Result.andThen, sliced, this, Addr.add]

def AtRel (l q : List UInt8) (a : UInt8) (cap g o m : Nat) (w : World) (i : Value) (wr : World) : Prop :=
  ∃ k : Nat, k ≤ m ∧ i = .int .i64 (k : Int) ∧ CelN wr g 5 cap (atL l o (scaleL a (q.take k))) ∧ Only g w wr

set_option maxHeartbeats 2000000 in
theorem addtimes_cap (l q : List UInt8) (a : UInt8) (cap g o n c m : Nat) (B : Option Addr) (d : Nat) (w : World) (HM : Hid (q.length = m)) (hcel : CelN w g 5 cap l) (hq : Rd vB w B q) (hB : q ≠ [] → ∀ ad, B = some ad → ad.block ≠ g) (hmn : m ≤ n) (hnc : n ≤ c) (hn : o + n ≤ l.length) (hl : l.length ≤ 200000) :
    Calls Try.prog 41 #[.slice (some ⟨g, o, none⟩) n c, .slice B m d, .int .u8 (a.toNat : Int)] w fun e w' => (∃ v, e = .returned v) ∧ CelN w' g 5 cap (atL l o (scaleL a q)) ∧ Only g w w' := by
  go_enter Try.func41, Try.ntmps41
  go_wp2_with fail
  go_loopw [10] (fun i wr => AtRel l q a cap g o m w i wr) (fun i _ => m - (intOf i).toNat)
  case atStart => exact ⟨0, Nat.zero_le _, rfl, by rw [List.take_zero, scaleL, List.map_nil, at_nil l o (by omega)]; exact hcel, Only.refl _ _⟩
  case round =>
    obtain ⟨k, hk, rfl, hc, ho⟩ := hrel
    by_cases h : k < m
    · have j1 : (k : Int) < (m : Int) := by omega
      have j0 : (0 : Int) ≤ (k : Int) := by omega
      have j2 : (k : Int) < (n : Int) := by omega
      have hkq : k < q.length := by rw [HM.out]; exact h
      obtain ⟨b, ob, rfl, hb, hcell⟩ := (hq.only ho hB).at hkq
      have hc0 := hcell k hkq
      unfold vB at hc0
      have hz : (scaleL a (q.take k)).length = k := by unfold scaleL; rw [List.length_map, List.length_take]; omega
      have hs : (atL l o (scaleL a (q.take k))).set (o + k) (addB (co (atL l o (scaleL a (q.take k))) (o + k)) (mulB a q[k])) = atL l o (scaleL a (q.take (k + 1))) := by
        have := at_snoc l o (scaleL a (q.take k)) (mulB a q[k]) (by rw [hz]; omega)
        rw [hz] at this
        rw [this, List.take_succ_eq_append_getElem hkq]
        unfold scaleL
        rw [List.map_append]
        rfl
      have hco := hc.cel.get (o + k) (by rw [at_length l o _ (by rw [hz]; omega)]; omega)
      have hfr := hc.cel.frozen (o + k)
      generalize atL l o (scaleL a (q.take k)) = T at hc hco hs
      generalize q[k] = x at hc0 hs
      have hset := hc.drew.set (o + k) (addB (co T (o + k)) (mulB a x))
      rw [hs] at hset
      generalize co T (o + k) = y at hco hset
      rw [mul_comm a x] at hset
      have hM : ∀ W, Calls Try.prog 33 #[.int .u8 (x.toNat : Int), .int .u8 (a.toNat : Int)] W fun e w'' => e = .returned (.int .u8 ((mulB x a).toNat : Int)) ∧ w'' = W := fun W => (gfmul_any x a W).mono fun _ _ h => ⟨h.1, h.2.symm⟩
      generalize mulB x a = z at hM hset
      have hA : ∀ W, Calls Try.prog 16 #[.int .u8 (y.toNat : Int), .int .u8 (z.toNat : Int)] W fun e w'' => e = .returned (.int .u8 ((addB y z).toNat : Int)) ∧ w'' = W := fun W => (gfadd_any y z W).mono fun _ _ h => ⟨h.1, h.2.symm⟩
      generalize addB y z = u at hA hset
      have HREL : Hid (AtRel l q a cap g o m w (.int .i64 ((k : Int) + 1)) (wr.drew.setCell ⟨g, o + k, none⟩ (.int .u8 (u.toNat : Int)))) := ⟨k + 1, h, by go_num, hset, (ho.drew).setCell _ _⟩
      have HMu := Lib.hid hM
      have HAd := Lib.hid hA
      clear hset hc ho hs hcell hkq hM hA
      go_wp2_with fail
      refine wp_region_still_tail 11 (by kernel_rfl) (by kernel_rfl) ?_
      simp only [List.take_succ_cons, List.take_zero, List.drop_succ_cons, List.drop_zero]
      iterate 8 still_step
      still_call (HMu.out _)
      still_call (HAd.out _)
      still_step
      refine wpStill_nil ?_
      change wpList _ _ _ _ _ wr.drew
      go_wp2_with fail
      go_roundw
      case rel => exact HREL.out
      case measure => simp [intOf] <;> omega
    · have hkm : k = m := by omega
      subst hkm
      have j1 : ¬ (k : Int) < (k : Int) := by omega
      rw [List.take_of_length_le (by rw [HM.out]; exact Nat.le_refl _)] at hc
      go_wp2_with fail
      go_end0
      exact ⟨⟨_, rfl⟩, hc, ho⟩
theorem addtimes_any (l q : List UInt8) (a : UInt8) (g o n c m : Nat) (B : Option Addr) (d : Nat) (w : World) (HM : Hid (q.length = m)) (hcel : Cel w g 5 l) (hq : Rd vB w B q) (hB : q ≠ [] → ∀ ad, B = some ad → ad.block ≠ g) (hmn : m ≤ n) (hnc : n ≤ c) (hn : o + n ≤ l.length) (hl : l.length ≤ 200000) :
    Calls Try.prog 41 #[.slice (some ⟨g, o, none⟩) n c, .slice B m d, .int .u8 (a.toNat : Int)] w fun e w' => (∃ v, e = .returned v) ∧ Cel w' g 5 (atL l o (scaleL a q)) ∧ Only g w w' := by
  obtain ⟨cap, h⟩ := hcel.some_cap
  exact (addtimes_cap l q a cap g o n c m B d w HM h hq hB hmn hnc hn hl).mono fun e w' hh => ⟨hh.1, hh.2.1.cel, hh.2.2⟩
end Go.Proofs.Ytankddeolpickaa
