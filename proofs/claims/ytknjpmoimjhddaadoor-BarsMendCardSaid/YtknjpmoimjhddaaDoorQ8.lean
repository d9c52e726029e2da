/-
  Layer 9 as plain functions: bytes as a polynomial whose last one is the coefficient of 1, signs, what is fine; unlike ones that are fine differ in many places; the generator, and checks by a register. No conditions but those typed.
-/
import Derived.Test.YtknjpmoimjhddaaDoorQ7
import Derived.RangeFuncNested
import Derived.RangeFuncBound
import Derived.RangeFuncCalls
import Derived.RangeFuncLeaves
import Derived.Shelf.Abstract
import Derived.Shelf.RegionOpen
import Derived.WalkKit
import Derived.OwnWalkIn
import Derived.TacticsInMore
import Derived.LoopNIn
import Derived.LoopIn
import Derived.Test.YtknjpmoimjhddaaDoorRows
import Derived.WalkSpells
import Derived.LoopTactic
import Derived.Lib.Hide
import Derived.Deep.DeepCutAuto
import Derived.StillTailTactics
namespace Go.Proofs.YtknjpmoimjhddaaDoor
set_option maxRecDepth 100000
set_option linter.unusedVariables false
set_option linter.unusedSimpArgs false

/-- The value of bytes as a polynomial, the last one the coefficient of 1. -/
def valB (b : List UInt8) (r : UInt8) : UInt8 := evalL b.reverse r
theorem val_nil (r : UInt8) : valB [] r = 0 := rfl
theorem val_snoc (b : List UInt8) (c r : UInt8) : valB (b ++ [c]) r = addB c (mulB r (valB b r)) := by
  unfold valB
  rw [List.reverse_append, List.reverse_singleton, List.singleton_append, evalL]
theorem val_cons (c : UInt8) (b : List UInt8) (r : UInt8) : valB (c :: b) r = addB (valB b r) (mulB c (powB r b.length)) := by
  unfold valB
  rw [List.reverse_cons, eval_snoc, List.length_reverse]
theorem val_append (a : List UInt8) (r : UInt8) : ∀ b : List UInt8, valB (b ++ a) r = addB (valB a r) (mulB (valB b r) (powB r a.length))
  | [] => by rw [List.nil_append, val_nil, zero_mul, add_zero]
  | c :: b => by
    rw [List.cons_append, val_cons, val_append a r b, val_cons, mul_add_left, List.length_append, pow_add, ← mul_assoc, add_assoc]
theorem val_xor (r : UInt8) : ∀ a b : List UInt8, a.length = b.length → valB (List.zipWith addB a b) r = addB (valB a r) (valB b r)
  | [], [], _ => (add_zero 0).symm
  | [], _ :: _, h => by simp at h
  | _ :: _, [], h => by simp at h
  | c :: a, d :: b, h => by
    have hl : a.length = b.length := by simpa using h
    rw [List.zipWith_cons_cons, val_cons, val_cons, val_cons, val_xor r a b hl, List.length_zipWith, hl, Nat.min_self, mul_add_left, add_four]
theorem val_scale (c r : UInt8) : ∀ b : List UInt8, valB (b.map (mulB c)) r = mulB c (valB b r)
  | [] => by rw [List.map_nil, val_nil, mul_zero]
  | d :: b => by rw [List.map_cons, val_cons, val_cons, val_scale c r b, List.length_map, mul_add_right, mul_assoc]

/-- Fine, by n checks (how many bytes there may be let aside). -/
def fineP (b : List UInt8) (n : Nat) : Prop := ∀ i, 1 ≤ i → i ≤ n → valB b (powB 2 i) = 0
theorem fineP.less {b : List UInt8} {n m : Nat} (h : fineP b n) (hm : m ≤ n) : fineP b m := fun i h1 h2 => h i h1 (by omega)
theorem fineP.xor {a b : List UInt8} {n : Nat} (ha : fineP a n) (hb : fineP b n) (hl : a.length = b.length) : fineP (List.zipWith addB a b) n := fun i h1 h2 => by
  rw [val_xor _ _ _ hl, ha i h1 h2, hb i h1 h2, add_zero]
theorem fineP.scale {b : List UInt8} {n : Nat} (h : fineP b n) (c : UInt8) : fineP (b.map (mulB c)) n := fun i h1 h2 => by
  rw [val_scale, h i h1 h2, mul_zero]

/-! ### Distance -/
/-- Each byte, and the power of 2 at its place. -/
def pairsL : List UInt8 → List (UInt8 × UInt8)
  | [] => []
  | c :: b => (c, powB 2 b.length) :: pairsL b
theorem val_pairs (i : Nat) : ∀ b : List UInt8, valB b (powB 2 i) = sumV (pairsL b) i
  | [] => rfl
  | c :: b => by
    rw [val_cons, val_pairs i b, pairsL, sumV, add_comm, ← pow_mul, ← pow_mul, Nat.mul_comm]
theorem pairs_locs : ∀ b : List UInt8, (pairsL b).map Prod.snd = ((List.range b.length).map (powB 2)).reverse
  | [] => rfl
  | c :: b => by
    rw [pairsL, List.map_cons, pairs_locs b, List.length_cons, List.range_succ, List.map_append, List.reverse_append]
    rfl
theorem pairs_els : ∀ b : List UInt8, (pairsL b).map Prod.fst = b
  | [] => rfl
  | c :: b => by rw [pairsL, List.map_cons, pairs_els b]
theorem powB_inj {i j : Nat} (hi : i < 255) (hj : j < 255) (h : powB 2 i = powB 2 j) : i = j := by rw [← log_exp i hi, ← log_exp j hj, h]
theorem nodup_map_on {α β : Type} {f : α → β} : ∀ {l : List α}, l.Nodup → (∀ x ∈ l, ∀ y ∈ l, f x = f y → x = y) → (l.map f).Nodup
  | [], _, _ => List.nodup_nil
  | a :: l, h, hf => by
    rw [List.nodup_cons] at h
    rw [List.map_cons, List.nodup_cons]
    refine ⟨fun hm => ?_, nodup_map_on h.2 (fun x hx y hy => hf x (List.mem_cons_of_mem _ hx) y (List.mem_cons_of_mem _ hy))⟩
    obtain ⟨y, hy, e⟩ := List.mem_map.1 hm
    have := hf y (List.mem_cons_of_mem _ hy) a (List.mem_cons_self) e
    exact h.1 (this ▸ hy)
theorem locs_nodup (b : List UInt8) (h : b.length ≤ 255) : ((pairsL b).map Prod.snd).Nodup := by
  rw [pairs_locs]
  refine (List.Perm.nodup_iff (List.reverse_perm _)).2 ?_
  refine nodup_map_on List.nodup_range (fun x hx y hy e => ?_)
  have h1 := List.mem_range.1 hx
  have h2 := List.mem_range.1 hy
  exact powB_inj (by omega) (by omega) e
theorem locs_ne (b : List UInt8) : ∀ p ∈ pairsL b, p.2 ≠ 0 := fun p hp => by
  have : p.2 ∈ (pairsL b).map Prod.snd := List.mem_map_of_mem hp
  rw [pairs_locs, List.mem_reverse] at this
  obtain ⟨k, _, e⟩ := List.mem_map.1 this
  rw [← e]
  exact exp_ne k
theorem sumV_filter (i : Nat) : ∀ l : List (UInt8 × UInt8), sumV (l.filter fun p => p.1 != 0) i = sumV l i
  | [] => rfl
  | (e, x) :: l => by
    have ih := sumV_filter i l
    by_cases h : e = 0
    · subst h
      rw [List.filter_cons_of_neg (by simp), ih, sumV, zero_mul, zero_add]
    · rw [List.filter_cons_of_pos (by simpa using h), sumV, sumV, ih]
/-- How many bytes aren't 0. -/
def wtL (b : List UInt8) : Nat := (b.filter fun c => c != 0).length
theorem pairs_wt : ∀ b : List UInt8, ((pairsL b).filter fun p => p.1 != 0).length = wtL b
  | [] => rfl
  | c :: b => by
    have ih := pairs_wt b
    unfold wtL at *
    by_cases h : c = 0
    · subst h
      rw [pairsL, List.filter_cons_of_neg (by simp), List.filter_cons_of_neg (by simp), ih]
    · rw [pairsL, List.filter_cons_of_pos (by simpa using h), List.filter_cons_of_pos (by simpa using h), List.length_cons, List.length_cons, ih]
/-- What is fine, and not 0 in no more places than there are checks, is 0. -/
theorem fine_zero (b : List UInt8) (n : Nat) (hl : b.length ≤ 255) (hf : fineP b n) (hw : wtL b ≤ n) : ∀ c ∈ b, c = 0 := by
  have hv := vander (wtL b) ((pairsL b).filter fun p => p.1 != 0) (pairs_wt b) ((List.filter_sublist.map Prod.snd).nodup (locs_nodup b hl)) (fun p hp => locs_ne b p (List.mem_filter.1 hp).1)
    (fun i h1 h2 => by rw [sumV_filter, ← val_pairs]; exact hf i h1 (by omega))
  intro c hc
  rw [← pairs_els b] at hc
  obtain ⟨p, hp, e⟩ := List.mem_map.1 hc
  by_cases h : p.1 = 0
  · rw [← e]; exact h
  · exact absurd (hv p (List.mem_filter.2 ⟨hp, by simpa using h⟩)) h
/-- In how many places two differ. -/
def difL (a b : List UInt8) : Nat := wtL (List.zipWith addB a b)
theorem zip_zero : ∀ a b : List UInt8, a.length = b.length → (∀ c ∈ List.zipWith addB a b, c = 0) → a = b
  | [], [], _, _ => rfl
  | [], _ :: _, h, _ => by simp at h
  | _ :: _, [], h, _ => by simp at h
  | c :: a, d :: b, h, hz => by
    rw [List.zipWith_cons_cons] at hz
    have h1 : c = d := add_zero_eq (hz _ List.mem_cons_self)
    have h2 := zip_zero a b (by simpa using h) (fun x hx => hz x (List.mem_cons_of_mem _ hx))
    rw [h1, h2]
theorem fine_unique (a b : List UInt8) (n : Nat) (hl : a.length = b.length) (h255 : a.length ≤ 255) (ha : fineP a n) (hb : fineP b n) (hd : difL a b ≤ n) : a = b :=
  zip_zero a b hl (fine_zero _ n (by rw [List.length_zipWith]; omega) (ha.xor hb hl) hd)
theorem wt_le (b : List UInt8) : wtL b ≤ b.length := List.length_filter_le _ _
theorem wt_append (a b : List UInt8) : wtL (a ++ b) = wtL a + wtL b := by unfold wtL; rw [List.filter_append, List.length_append]
theorem zip_self (a : List UInt8) : List.zipWith addB a a = List.replicate a.length 0 := by
  induction a with
  | nil => rfl
  | cons c a ih => rw [List.zipWith_cons_cons, ih, add_self, List.length_cons, List.replicate_succ]
theorem wt_zeros (n : Nat) : wtL (List.replicate n 0) = 0 := by
  unfold wtL
  rw [List.filter_eq_nil_iff.2 (fun x hx => by rw [(List.mem_replicate.1 hx).2]; simp)]
  rfl
/-- Checks behind the same data differ in no more places than there are. -/
theorem dif_data (d a b : List UInt8) (h : a.length = b.length) : difL (d ++ a) (d ++ b) ≤ a.length := by
  unfold difL
  rw [List.zipWith_append rfl, wt_append, zip_self, wt_zeros, Nat.zero_add]
  refine Nat.le_trans (wt_le _) ?_
  rw [List.length_zipWith]
  omega
/-- Just one way to put checks makes data fine. -/
theorem checks_unique (d a b : List UInt8) (n : Nat) (ha : a.length = n) (hb : b.length = n) (hl : d.length + n ≤ 255) (fa : fineP (d ++ a) n) (fb : fineP (d ++ b) n) : a = b := by
  have := fine_unique (d ++ a) (d ++ b) n (by simp [ha, hb]) (by simp [ha]; omega) fa fb (by rw [← ha]; exact dif_data d a b (by rw [ha, hb]))
  exact List.append_cancel_left this

/-! ### The generator -/
def genL : Nat → List UInt8
  | 0 => [1]
  | n + 1 => plainL (mulL (genL n) [powB 2 (n + 1), 1])
def IsGen (n : Nat) (g : List UInt8) : Prop := g.length = n + 1 ∧ co g n = 1 ∧ ∀ i, 1 ≤ i → i ≤ n → evalL g (powB 2 i) = 0
theorem gen_is : ∀ n, IsGen n (genL n)
  | 0 => ⟨rfl, rfl, fun i h1 h2 => by omega⟩
  | n + 1 => by
    obtain ⟨h1, h2, h3⟩ := gen_is n
    have hg : genL n ≠ [] := by
      intro e
      rw [e] at h1
      simp at h1
    have hlen : (mulL (genL n) [powB 2 (n + 1), 1]).length = n + 2 := by
      rw [mulL_length _ _ hg (by simp), h1]
      simp
    have htop : co (mulL (genL n) [powB 2 (n + 1), 1]) (n + 1) = 1 := by
      have := mulL_top (genL n) [powB 2 (n + 1), 1] hg (by simp)
      rw [h1] at this
      simp only [List.length_cons, List.length_nil] at this
      rw [show n + 1 + (0 + 1 + 1) - 2 = n + 1 by omega, show n + 1 - 1 = n by omega, h2] at this
      rw [this]
      show mulB 1 1 = 1
      exact mul_one 1
    have hp : plainL (mulL (genL n) [powB 2 (n + 1), 1]) = mulL (genL n) [powB 2 (n + 1), 1] := plain_of_top _ (.inr (by
      rw [hlen, show n + 2 - 1 = n + 1 by omega, htop]
      decide))
    have hq : ∀ r, evalL [powB 2 (n + 1), 1] r = addB (powB 2 (n + 1)) r := fun r => by
      simp only [evalL, mul_zero, add_zero, mul_one]
    unfold genL
    rw [hp]
    refine ⟨hlen, htop, fun i hi1 hi2 => ?_⟩
    rw [eval_mul, hq]
    by_cases h : i ≤ n
    · rw [h3 i hi1 h, zero_mul]
    · have : i = n + 1 := by omega
      rw [this, add_self, mul_zero]

/-! ### The register -/
/-- One byte more: the register, of as many bytes as there are checks. -/
def regL (g reg : List UInt8) (top : UInt8) : List UInt8 := List.zipWith addB (0 :: reg.dropLast) ((g.take reg.length).map (mulB top))
theorem reg_length (g reg : List UInt8) (top : UInt8) (h0 : reg ≠ []) (hg : reg.length ≤ g.length) : (regL g reg top).length = reg.length := by
  unfold regL
  have : 0 < reg.length := List.length_pos_iff.2 h0
  rw [List.length_zipWith, List.length_cons, List.length_dropLast, List.length_map, List.length_take]
  omega
theorem eval_zip (r : UInt8) : ∀ a b : List UInt8, a.length = b.length → evalL (List.zipWith addB a b) r = addB (evalL a r) (evalL b r)
  | [], [], _ => (add_zero 0).symm
  | [], _ :: _, h => by simp at h
  | _ :: _, [], h => by simp at h
  | c :: a, d :: b, h => by
    rw [List.zipWith_cons_cons, evalL, evalL, evalL, eval_zip r a b (by simpa using h), mul_add_right, add_four]
theorem eval_split (p : List UInt8) (n : Nat) (r : UInt8) (h : p.length = n + 1) : evalL p r = addB (evalL (p.take n) r) (mulB (co p n) (powB r n)) := by
  have e : p = p.take n ++ [co p n] := by
    conv => lhs; rw [← List.take_append_drop n p]
    congr 1
    have : p.drop n = [p[n]'(by omega)] := by
      rw [List.drop_eq_getElem_cons (by omega), List.drop_of_length_le (by omega)]
    rw [this, co_lt p n (by omega)]
  conv => lhs; rw [e]
  rw [eval_snoc, List.length_take, Nat.min_eq_left (by omega)]
theorem reg_val (n : Nat) (g reg : List UInt8) (d r : UInt8) (hg : IsGen (n + 1) g) (hr : reg.length = n + 1) (h0 : evalL g r = 0) : evalL (regL g reg (addB d (co reg n))) r = addB (mulB r (evalL reg r)) (mulB d (powB r (n + 1))) := by
  obtain ⟨h1, h2, _⟩ := hg
  have e1 := eval_split g (n + 1) r h1
  rw [h2, one_mul, h0] at e1
  have e2 := eval_split reg n r hr
  have hd : reg.dropLast = reg.take n := by rw [List.dropLast_eq_take, hr]; rfl
  unfold regL
  rw [eval_zip r _ _ (by rw [List.length_cons, List.length_dropLast, List.length_map, List.length_take, h1, hr]; omega), evalL, zero_add, hd, hr]
  have e3 : evalL ((g.take (n + 1)).map (mulB (addB d (co reg n)))) r = mulB (addB d (co reg n)) (evalL (g.take (n + 1)) r) := eval_scale _ _ _
  have e4 : evalL (g.take (n + 1)) r = powB r (n + 1) := add_zero_eq e1.symm
  rw [e3, e4, e2, mul_add_right, mul_add_left, show mulB r (mulB (co reg n) (powB r n)) = mulB (co reg n) (powB r (n + 1)) by rw [← mul_assoc, mul_comm r, mul_assoc, mul_comm r]; rfl]
  generalize mulB r (evalL (reg.take n) r) = x
  generalize mulB d (powB r (n + 1)) = y
  generalize mulB (co reg n) (powB r (n + 1)) = z
  rw [add_comm y z, ← add_assoc]
/-- The register behind some data. -/
def runL (g : List UInt8) (n : Nat) (d : List UInt8) : List UInt8 := d.foldl (fun reg c => regL g reg (addB c (co reg (n - 1)))) (List.replicate n 0)
theorem run_snoc (g : List UInt8) (n : Nat) (d : List UInt8) (c : UInt8) : runL g n (d ++ [c]) = regL g (runL g n d) (addB c (co (runL g n d) (n - 1))) := by unfold runL; rw [List.foldl_append]; rfl
theorem snoc_ind {p : List UInt8 → Prop} (h0 : p []) (h1 : ∀ d c, p d → p (d ++ [c])) (d : List UInt8) : p d := by
  rw [← List.reverse_reverse d]
  induction d.reverse with
  | nil => exact h0
  | cons c d ih => rw [List.reverse_cons]; exact h1 _ _ ih
theorem run_length (g : List UInt8) (n : Nat) (hn : 1 ≤ n) (hg : n ≤ g.length) (d : List UInt8) : (runL g n d).length = n := by
  refine snoc_ind (p := fun d => (runL g n d).length = n) ?_ (fun d c ih => ?_) d
  · simp [runL]
  · have h0 : runL g n d ≠ [] := fun e => by rw [e] at ih; simp at ih; omega
    rw [run_snoc, reg_length _ _ _ h0 (by omega), ih]
theorem eval_zeros (n : Nat) (r : UInt8) : evalL (List.replicate n 0) r = 0 := by
  induction n with
  | zero => rfl
  | succ n ih => rw [List.replicate_succ, evalL, ih, mul_zero, add_zero]
theorem run_val (g : List UInt8) (n : Nat) (hn : 1 ≤ n) (hg : IsGen n g) (i : Nat) (h1 : 1 ≤ i) (h2 : i ≤ n) (d : List UInt8) : evalL (runL g n d) (powB 2 i) = mulB (valB d (powB 2 i)) (powB (powB 2 i) n) := by
  refine snoc_ind (p := fun d => evalL (runL g n d) (powB 2 i) = mulB (valB d (powB 2 i)) (powB (powB 2 i) n)) ?_ (fun d c ih => ?_) d
  · rw [val_nil, zero_mul]
    exact eval_zeros n _
  · obtain ⟨m, rfl⟩ : ∃ m, n = m + 1 := ⟨n - 1, by omega⟩
    rw [run_snoc, Nat.add_sub_cancel, reg_val m g _ c _ hg (run_length g _ hn (by rw [hg.1]; omega) d) (hg.2.2 i h1 h2), ih, val_snoc, mul_add_left, add_comm, mul_assoc]
/-- The data, and its checks. -/
def putS (d : List UInt8) (n : Nat) : List UInt8 := d ++ (runL (genL n) n d).reverse
theorem putS_length (d : List UInt8) (n : Nat) (hn : 1 ≤ n) : (putS d n).length = d.length + n := by
  unfold putS
  rw [List.length_append, List.length_reverse, run_length _ n hn (by rw [(gen_is n).1]; omega)]
theorem putS_fine (d : List UInt8) (n : Nat) (hn : 1 ≤ n) : fineP (putS d n) n := fun i h1 h2 => by
  have hl := run_length (genL n) n hn (by rw [(gen_is n).1]; omega) d
  unfold putS
  rw [val_append, List.length_reverse, hl, ← run_val (genL n) n hn (gen_is n) i h1 h2 d]
  unfold valB
  rw [List.reverse_reverse, add_self]
/-- Whatever checks make it fine are these. -/
theorem putS_only (d c : List UInt8) (n : Nat) (hn : 1 ≤ n) (hc : c.length = n) (hl : d.length + n ≤ 255) (hf : fineP (d ++ c) n) : d ++ c = putS d n := by
  unfold putS
  have h1 := run_length (genL n) n hn (by rw [(gen_is n).1]; omega) d
  rw [checks_unique d c (runL (genL n) n d).reverse n hc (by rw [List.length_reverse, h1]) hl hf (putS_fine d n hn)]

/-! ### Signs -/
def signsL (b : List UInt8) (n : Nat) : List UInt8 := (List.range n).map fun i => valB b (powB 2 (i + 1))
theorem signs_length (b : List UInt8) (n : Nat) : (signsL b n).length = n := by simp [signsL]
theorem signs_zero (b : List UInt8) (n : Nat) : (∀ s ∈ signsL b n, s = 0) ↔ fineP b n := by
  unfold signsL fineP
  constructor
  · intro h i h1 h2
    have := h (valB b (powB 2 (i - 1 + 1))) (List.mem_map.2 ⟨i - 1, List.mem_range.2 (by omega), rfl⟩)
    rwa [show i - 1 + 1 = i by omega] at this
  · intro h s hs
    obtain ⟨i, hi, rfl⟩ := List.mem_map.1 hs
    exact h (i + 1) (by omega) (by have := List.mem_range.1 hi; omega)
/-- Why there are no signs. -/
def errS (len : Nat) (n : Int) : Int := if n < 1 ∨ 64 < n then 1 else if (len : Int) < n then 2 else if 255 < len then 4 else 0
def fineS (b : List UInt8) (n : Int) : Bool := decide (errS b.length n = 0) && (signsL b n.toNat).all (· == 0)
theorem fineS_iff (b : List UInt8) (n : Nat) (h1 : 1 ≤ n) (h2 : n ≤ 64) (h3 : n ≤ b.length) (h4 : b.length ≤ 255) : fineS b n = true ↔ fineP b n := by
  unfold fineS errS
  rw [if_neg (by omega), if_neg (by omega), if_neg (by omega), ← signs_zero]
  simp
end Go.Proofs.YtknjpmoimjhddaaDoor
/-
  What slices.Backward answers at slices of bytes: a range over a function, from the last place to the first; its contract for whatever body keeps the slice readable. Conditions: bounds on lengths, as typed.
-/
namespace Go.Proofs.YtknjpmoimjhddaaDoor
set_option maxRecDepth 100000
open Go.RowKit Go.Shelf
set_option linter.unusedSimpArgs false
set_option linter.unusedVariables false

attribute [local go_sem] Oper.semAt_some

/-- The places from the last one on, as far as k rounds come. -/
def backN (n k : Nat) : List Nat := (List.range k).map fun j => n - 1 - j
theorem back_succ (n k : Nat) : backN n (k + 1) = backN n k ++ [n - 1 - k] := by simp [backN, List.range_succ]
theorem back_length (n k : Nat) : (backN n k).length = k := by simp [backN]
theorem mem_back (n k i : Nat) (hk : k ≤ n) : i ∈ backN n k ↔ n - k ≤ i ∧ i < n := by
  unfold backN
  rw [List.mem_map]
  constructor
  · rintro ⟨j, hj, rfl⟩
    rw [List.mem_range] at hj
    omega
  · rintro ⟨h1, h2⟩
    exact ⟨n - 1 - i, by rw [List.mem_range]; omega, by omega⟩

/-- What comes to a round: a place, and the byte there. -/
abbrev Bk (n : Nat) (V : Nat → UInt8 → Prop) := { x : Nat × UInt8 // x.1 < n ∧ V x.1 x.2 }
def Bk.at {n : Nat} {V : Nat → UInt8 → Prop} (x : Bk n V) : Nat := x.1.1
def Bk.val {n : Nat} {V : Nat → UInt8 → Prop} (x : Bk n V) : UInt8 := x.1.2
def Bk.enc {n : Nat} {V : Nat → UInt8 → Prop} (x : Bk n V) : Array Value := #[.int .i64 (x.at : Int), .int .u8 (x.val.toNat : Int)]
theorem Bk.lt {n : Nat} {V : Nat → UInt8 → Prop} (x : Bk n V) : x.at < n := x.2.1
theorem Bk.is {n : Nat} {V : Nat → UInt8 → Prop} (x : Bk n V) : V x.at x.val := x.2.2
def backS {n : Nat} {V : Nat → UInt8 → Prop} (xs : List (Bk n V)) : Prop := xs.map Bk.at = backN n n
def backP {n : Nat} {V : Nat → UInt8 → Prop} (xs : List (Bk n V)) : Prop := ∃ k, k ≤ n ∧ xs.map Bk.at = backN n k

theorem backward_any (A : Option Addr) (n c : Nat) (w : World) :
    Calls Tryd.prog 75 #[.slice A n c] w fun e w' => e = .returned (.func (.func 90) #[] #[.pointer (some ⟨w.heap.size, 0, none⟩)]) ∧ w' = w.alloc (.cells #[.slice A n c] 25) := by
  go_enter Tryd.func75, Tryd.ntmps75
  go_wp2_with fail
  go_ret
  exact ⟨rfl, rfl⟩

set_option maxHeartbeats 2000000 in
theorem back1_in (F : Fence) (n : Nat) (h7 : F.fn 90) (hro : F.round = none) (hn : 1 ≤ n) (l Bs len cap : Nat) (A : Option Addr) (V : Nat → UInt8 → Prop) (Kp : World → World → Prop) (hlen : len ≤ 140737488351232) (J Jx : List (Bk len V) → World → Prop)
    (hY : ∀ pre x W, J pre W → pre.length < len → YieldAt F (n - 1) Tryd.prog l (Bk.enc x) W fun e W' => (e = .returned (.bool true) ∧ J (pre ++ [x]) W' ∧ Kp W W') ∨ (e = .returned (.bool false) ∧ Jx (pre ++ [x]) W'))
    (W : World) (hKr : Kp W W) (hKt : ∀ X Y, Kp W X → Kp X Y → Kp W Y) (hread : ∀ W', Kp W W' → W'.cell? ⟨Bs, 0, none⟩ = some (.slice A len cap) ∧ ∃ p : List UInt8, p.length = len ∧ Rd vB W' A p ∧ ∀ j, j < len → V j (co p j)) (h0 : J [] W) :
    CallsIn F n Tryd.prog 90 #[.func (.yield l) #[] #[], .pointer (some ⟨Bs, 0, none⟩)] W fun e W' => (∃ v, e = .returned v) ∧ ((∃ xs, backS xs ∧ J xs W') ∨ (∃ pre, backP pre ∧ Jx pre W')) := by
  have hc0 := (hread W hKr).1
  refine callsIn_of_wp Tryd.func90 rfl h7 ?_ hro
  simp only [Tryd.ntmps90, List.size_toArray, List.length_cons, List.length_nil, Nat.reduceAdd, Nat.reduceSub, Array.replicate_succ, Array.replicate_zero, List.push_toArray, List.append_toArray, List.nil_append, List.cons_append]
  gi_wp2
  gi_loopw [3] (fun i wr => ∃ m : Nat, m ≤ len ∧ i = .int .i64 ((m : Int) - 1) ∧ (∃ pre : List (Bk len V), pre.length = len - m ∧ pre.map Bk.at = backN len (len - m) ∧ J pre wr) ∧ Kp W wr)
    (fun i _ => (intOf i + 1).toNat)
  case atStart => exact ⟨len, Nat.le_refl _, rfl, ⟨[], by simp, by rw [Nat.sub_self]; rfl, h0⟩, hKr⟩
  case round =>
    obtain ⟨m, hm, rfl, ⟨pre, hpl, hpm, hJs⟩, hK⟩ := hrel
    obtain ⟨hcb, p, hp, hrd, hV⟩ := hread wr hK
    by_cases h0 : m = 0
    · subst h0
      rw [Nat.sub_zero] at hpm
      have HPM := Lib.hid hpm
      clear hpm hpl hV
      gi_wp2
      go_end0
      exact ⟨⟨_, rfl⟩, .inl ⟨_, HPM.out, hJs⟩⟩
    · obtain ⟨q, rfl⟩ : ∃ q, m = q + 1 := ⟨m - 1, by omega⟩
      have hq : q < p.length := by omega
      obtain ⟨b, o, rfl, hb, hcell⟩ := hrd.at hq
      have hc1 := hcell q hq
      have hv := hV q (by omega)
      rw [co_lt p q hq] at hv
      unfold vB at hc1
      generalize p[q] = y at hc1 hv
      obtain ⟨fn, tmps, assign, body, hy, hR⟩ := hY pre ⟨(q, y), by omega, hv⟩ wr hJs (by omega)
      unfold Bk.enc Bk.at Bk.val at hy
      dsimp only at hy
      have HPM : Hid ((pre ++ [(⟨(q, y), by omega, hv⟩ : Bk len V)]).map Bk.at = backN len (len - q)) := by
        unfold Hid
        rw [show len - q = (len - (q + 1)) + 1 by omega, back_succ, List.map_append, hpm, List.map_cons, List.map_nil]
        unfold Bk.at
        dsimp only
        rw [show len - 1 - (len - (q + 1)) = q by omega]
      have HPL : Hid ((pre ++ [(⟨(q, y), by omega, hv⟩ : Bk len V)]).length = len - q) := by
        unfold Hid
        rw [List.length_append, hpl, List.length_singleton]
        omega
      have e1 : ((q + 1 : Nat) : Int) - 1 = (q : Int) := by omega
      rw [e1]
      have i0 : (0 : Int) ≤ (q : Int) := by omega
      have i1 : (q : Int) < (len : Int) := by omega
      clear hpm hpl hV hcell hrd e1
      gi_wp2
      refine hR.mono ?_
      rintro e W3 (⟨rfl, hJ3, hk3⟩ | ⟨rfl, hJx3⟩)
      · gi_wp2
        go_roundw
        case rel => exact ⟨q, by omega, by go_num, ⟨_, HPL.out, HPM.out, hJ3⟩, hKt _ _ hK hk3⟩
        case measure => simp [intOf] <;> omega
      · gi_wp2
        refine bodyPost_ret (results_none rfl _ _ _) rfl ?_
        exact ⟨⟨_, rfl⟩, .inr ⟨_, ⟨len - q, by omega, HPM.out⟩, hJx3⟩⟩

/-- What 'slices.Backward(s)' hands back, as a loop's iterator. -/
theorem back_stops (F : Fence) (n : Nat) (h7 : F.fn 90) (hro : F.round = none) (hn : 1 ≤ n) (Bs len cap : Nat) (A : Option Addr) (V : Nat → UInt8 → Prop) (Kp : World → World → Prop) (hlen : len ≤ 140737488351232) (w : World)
    (hKr : ∀ W, Kp W W) (hKt : ∀ X Y Z, Kp X Y → Kp Y Z → Kp X Z) (hread : ∀ W, Below w.heap.size w W → ∀ W', Kp W W' → W'.cell? ⟨Bs, 0, none⟩ = some (.slice A len cap) ∧ ∃ p : List UInt8, p.length = len ∧ Rd vB W' A p ∧ ∀ j, j < len → V j (co p j)) :
    SeqStopsK F n Tryd.prog 90 #[.pointer (some ⟨Bs, 0, none⟩)] (Bk.enc (n := len) (V := V)) Kp backS backP len w := fun l J Jx W hW _ _ hY h0 =>
  back1_in F n h7 hro hn l Bs len cap A V Kp hlen J Jx hY W (hKr W) (fun X Y h k => hKt _ _ _ h k) (hread W hW) h0
end Go.Proofs.YtknjpmoimjhddaaDoor
/-
  Polynomials as they are laid coefficient by coefficient: tables of coefficients, products as sums, shifts, one step of a division. No conditions but those typed.
-/
namespace Go.Proofs.YtknjpmoimjhddaaDoor
set_option maxRecDepth 100000
set_option linter.unusedVariables false
set_option linter.unusedSimpArgs false

/-- The first n coefficients. -/
def tabL (f : Nat → UInt8) : Nat → List UInt8
  | 0 => []
  | n + 1 => tabL f n ++ [f n]
theorem tab_length (f : Nat → UInt8) : ∀ n, (tabL f n).length = n
  | 0 => rfl
  | n + 1 => by rw [tabL, List.length_append, tab_length f n]; rfl
theorem co_snoc (l : List UInt8) (x : UInt8) (k : Nat) : co (l ++ [x]) k = if k < l.length then co l k else if k = l.length then x else 0 := by
  rcases Nat.lt_trichotomy k l.length with h | h | h
  · rw [if_pos h]
    simp [co, List.getD_eq_getElem?_getD, List.getElem?_append_left h]
  · rw [if_neg (by omega), if_pos h]
    subst h
    simp [co, List.getD_eq_getElem?_getD]
  · rw [if_neg (by omega), if_neg (by omega), co_ge _ _ (by rw [List.length_append]; simp; omega)]
theorem co_tab (f : Nat → UInt8) : ∀ n k, co (tabL f n) k = if k < n then f k else 0
  | 0, k => by rw [tabL, co_nil, if_neg (by omega)]
  | n + 1, k => by
    rw [tabL, co_snoc, tab_length, co_tab f n k]
    rcases Nat.lt_trichotomy k n with h | h | h
    · rw [if_pos h, if_pos (by omega), if_pos (by omega)]
    · subst h
      rw [if_neg (by omega), if_pos rfl, if_pos (by omega)]
    · rw [if_neg (by omega), if_neg (by omega), if_neg (by omega)]
theorem tab_eqv (p : List UInt8) (n : Nat) (h : p.length ≤ n) : Eqv (tabL (co p) n) p := fun k => by
  rw [co_tab]
  split
  · rfl
  · rw [co_ge p k (by omega)]
theorem plain_tab (p : List UInt8) (n : Nat) (h : p.length ≤ n) : plainL (tabL (co p) n) = plainL p := plain_congr (tab_eqv p n h)

/-- A product's coefficient as a sum. -/
def sumL' (p q : List UInt8) (k : Nat) : Nat → UInt8
  | 0 => 0
  | n + 1 => addB (sumL' p q k n) (mulB (co p n) (co q (k - n)))
theorem sum_cons (a : UInt8) (p q : List UInt8) (k : Nat) : ∀ n, sumL' (a :: p) q (k + 1) (n + 1) = addB (mulB a (co q (k + 1))) (sumL' p q k n)
  | 0 => by
    rw [sumL', sumL', sumL', zero_add, add_zero]
    rfl
  | n + 1 => by
    rw [sumL', sum_cons a p q k n, sumL', co_succ, show k + 1 - (n + 1) = k - n by omega, add_assoc]
theorem mul_sum : ∀ (p q : List UInt8) (k : Nat), co (mulL p q) k = sumL' p q k (k + 1)
  | [], q, k => by
    have : ∀ n, sumL' [] q k n = 0 := fun n => by
      induction n with
      | zero => rfl
      | succ n ih => rw [sumL', ih, co_nil, zero_mul, add_zero]
    rw [mulL, co_nil, this]
  | a :: p, q, 0 => by
    rw [mulL, co_add, co_scale, co_zero, add_zero, sumL', sumL', zero_add]
    rfl
  | a :: p, q, k + 1 => by rw [mulL, co_add, co_scale, co_succ, mul_sum p q k, sum_cons]
theorem sum_past (p q : List UInt8) (k : Nat) : ∀ n, p.length ≤ n → sumL' p q k n = sumL' p q k p.length
  | 0, h => by
    have : p.length = 0 := by omega
    rw [this]
  | n + 1, h => by
    by_cases e : p.length = n + 1
    · rw [e]
    · rw [sumL', co_ge p n (by omega), zero_mul, add_zero, sum_past p q k n (by omega)]
theorem mul_sum_min (p q : List UInt8) (k : Nat) : co (mulL p q) k = sumL' p q k (min (k + 1) p.length) := by
  rw [mul_sum]
  rcases Nat.lt_or_ge p.length (k + 1) with h | h
  · rw [Nat.min_eq_right (by omega), sum_past p q k (k + 1) (by omega)]
  · rw [Nat.min_eq_left h]
theorem mulL_length_le (p q : List UInt8) : (mulL p q).length ≤ p.length + q.length := by
  induction p with
  | nil => simp [mulL]
  | cons a p ih =>
    rw [mulL, addL_length, scaleL, List.length_map, List.length_cons, List.length_cons]
    omega

/-- A polynomial times a power of x. -/
def shiftL (n : Nat) (p : List UInt8) : List UInt8 := List.replicate n 0 ++ p
theorem shift_succ (n : Nat) (p : List UInt8) : shiftL (n + 1) p = 0 :: shiftL n p := rfl
theorem shift_length (n : Nat) (p : List UInt8) : (shiftL n p).length = n + p.length := by simp [shiftL]
theorem co_shift : ∀ (n : Nat) (p : List UInt8) (k : Nat), co (shiftL n p) (n + k) = co p k
  | 0, p, k => by
    rw [Nat.zero_add]
    rfl
  | n + 1, p, k => by rw [shift_succ, show n + 1 + k = n + k + 1 by omega, co_succ, co_shift n p k]
theorem mul_shift_one (c : UInt8) (q : List UInt8) : ∀ n, Eqv (mulL (shiftL n [c]) q) (shiftL n (scaleL c q))
  | 0 => by
    show Eqv (addL (scaleL c q) (0 :: mulL [] q)) (scaleL c q)
    exact (add_congr (Eqv.refl _) zero_cons).trans (addL_nil _)
  | n + 1 => by
    rw [shift_succ, shift_succ]
    exact (mulL_shift_left _ _).trans ((mul_shift_one c q n).cons 0)

/-- One step of a division: what is left is shorter, and it still makes p. -/
theorem quo_step {p q a l : List UInt8} {n : Nat} {t : UInt8} (hl : plainL l = l) (hq : plainL q = q) (hqn : q ≠ []) (hn : l.length = n + q.length) (ht : t = mulB (co l (l.length - 1)) (invB (co q (q.length - 1)))) (h : Eqv (addL (mulL a q) l) p) :
    Eqv (addL (mulL (plainL (addL a (shiftL n [t]))) q) (plainL (addL l (shiftL n (scaleL t q))))) p ∧ (plainL (addL l (shiftL n (scaleL t q)))).length < l.length := by
  have hq0 : 0 < q.length := List.length_pos_iff.2 hqn
  have htop : co q (q.length - 1) ≠ 0 := by
    have := plain_top q (by rw [hq]; exact hqn)
    rwa [hq] at this
  refine ⟨?_, ?_⟩
  · have e1 : Eqv (mulL (plainL (addL a (shiftL n [t]))) q) (addL (mulL a q) (shiftL n (scaleL t q))) :=
      (mul_congr (plain_eqv _) (Eqv.refl q)).trans ((mulL_add_left _ _ _).trans (add_congr (Eqv.refl _) (mul_shift_one t q n)))
    refine (add_congr e1 (plain_eqv _)).trans ?_
    refine Eqv.trans (fun k => ?_) h
    simp only [co_add]
    have : ∀ x y z : UInt8, addB (addB x z) (addB y z) = addB x y := fun x y z => by
      have h1 : addB (addB x z) (addB y z) = addB (addB x y) (addB z z) := add_four x z y z
      rw [h1, add_self, add_zero]
    exact this _ _ _
  · have hle : (plainL (addL l (shiftL n (scaleL t q)))).length ≤ l.length - 1 := by
      refine (plain_le_iff _ _).2 fun k hk => ?_
      rw [co_add]
      rcases Nat.lt_or_ge k l.length with h1 | h1
      · have hk' : k = l.length - 1 := by omega
        have hk2 : k = n + (q.length - 1) := by omega
        rw [hk2, co_shift, co_scale, ← hk2, hk', ht, mul_assoc, mul_comm (invB _), mul_inv _ htop, mul_one, add_self]
      · rw [co_ge l k h1, co_ge _ k (by rw [shift_length, scaleL, List.length_map]; omega), add_zero]
    omega
end Go.Proofs.YtknjpmoimjhddaaDoor
/-
  What the reference's calls of layer 7 answer: bits, powers of two, products, powers, inverses, logarithms. No conditions but those typed.
-/
namespace Go.Proofs.YtknjpmoimjhddaaDoor
set_option maxRecDepth 100000
open Go.RowKit
set_option linter.unusedSimpArgs false
set_option linter.unusedVariables false

theorem i64_xor_nat (a b : Nat) (ha : a < 4611686018427387904) (hb : b < 4611686018427387904) : bits .xor .i64 (a : Int) (b : Int) = ((a ^^^ b : Nat) : Int) := by
  have hx : a ^^^ b < 2 ^ 62 := Nat.xor_lt_two_pow (by omega) (by omega)
  have e : ∀ x : Nat, x < 4611686018427387904 → (BitVec.ofInt 64 (x : Int)).toNat = x := fun x h => by
    rw [BitVec.ofInt_natCast, BitVec.toNat_ofNat]
    exact Nat.mod_eq_of_lt (by omega)
  show IntKind.i64.wrap ((BitVec.ofInt 64 (a : Int) ^^^ BitVec.ofInt 64 (b : Int)).toNat : Int) = _
  rw [BitVec.toNat_xor, e a ha, e b hb, IntKind.wrap_i64]
  omega
theorem clN_lt (a b : Nat) (ha : a < 256) : ∀ i, i ≤ 8 → clN a b i < 65536
  | 0, _ => by simp [clN]
  | i + 1, h => by
    have ih := clN_lt a b ha i (by omega)
    unfold clN
    split
    · have h2 : 2 ^ i ≤ 2 ^ 7 := Nat.pow_le_pow_right (by omega) (by omega)
      have h3 : a * 2 ^ i ≤ 255 * 2 ^ 7 := Nat.mul_le_mul (by omega) h2
      exact Nat.xor_lt_two_pow (n := 16) (by omega) (by omega)
    · exact ih
/-- What is left, behind j bits. -/
def leftN (p : Nat) : Nat → Nat
  | 0 => p
  | j + 1 => stepN (leftN p j) (14 - j)
theorem leftN_seven (p : Nat) : leftN p 7 = redN p := rfl
theorem leftN_lt (p : Nat) (hp : p < 65536) : ∀ j, j ≤ 7 → leftN p j < 65536
  | 0, _ => hp
  | j + 1, h => by
    have ih := leftN_lt p hp j (by omega)
    rw [leftN, stepN]
    split
    · have h2 : 2 ^ (14 - j - 8) ≤ 2 ^ 6 := Nat.pow_le_pow_right (by omega) (by omega)
      exact Nat.xor_lt_two_pow (n := 16) (by omega) (by omega)
    · exact ih

/-! ### Powers -/
def powZ (a : UInt8) (n : Int) : UInt8 := if a = 0 then (if n = 0 then 1 else 0) else powB a (n % 255).toNat
/-! ### Inverses and logarithms, by trying -/
theorem powZ_two (j : Nat) (h : j < 255) : powZ 2 (j : Int) = powB 2 j := by
  unfold powZ
  rw [if_neg (by decide)]
  congr 1
  omega
end Go.Proofs.YtknjpmoimjhddaaDoor
/-
  What the reference's calls of layer 8 answer: At, Plain, Add, Eval, shift, Times. No conditions but those typed.
-/
namespace Go.Proofs.YtknjpmoimjhddaaDoor
set_option maxRecDepth 100000
open Go.RowKit
set_option linter.unusedSimpArgs false
set_option linter.unusedVariables false

/-- A call that hands back a list of bytes. -/
def RetQ (w : World) (l : List UInt8) (e : Ending) (w' : World) : Prop := ∃ A n c, e = .returned (.slice A n c) ∧ Hid (l.length = n) ∧ n ≤ c ∧ Rd vB w' A l ∧ Below w.heap.size w w'
theorem RetQ.own {w w' : World} {l : List UInt8} {base : Nat} {e : TypeId} {v : Value} {n : Nat} (hn : l.length = n) (h : w'.ownsRow base e 1 v n (l.map vB)) (hb : Below w.heap.size w w') : RetQ w l (.returned v) w' := by
  subst hn
  obtain ⟨A, c, rfl, hc, hr⟩ := own_slice h
  exact ⟨A, l.length, c, rfl, rfl, hc, hr, hb⟩

/-! ### Plain -/
/-! ### Add -/
def TabRel (f : Nat → UInt8) (lo hi : Nat) (w : World) (v i : Value) (wr : World) : Prop :=
  ∃ k : Nat, k ≤ hi ∧ i = .int .i64 ((k + lo : Nat) : Int) ∧ wr.ownsRow w.heap.size 5 1 v k ((tabL f k).map vB) ∧ Below w.heap.size w wr
theorem tab_round {f : Nat → UInt8} {lo hi k : Nat} {w wr w1 : World} {u v : Value} {o : Obj} {x : UInt8} (hk : k < hi) (ho : wr.ownsRow w.heap.size 5 1 u k ((tabL f k).map vB)) (hb : Below w.heap.size w wr) (hx : f k = x)
    (hg : (wr.alloc o).grownBy w1 u.ownBlock) (ho' : w1.ownsRow w.heap.size 5 1 v (k + 1) ((tabL f k).map vB ++ [Value.int .u8 (x.toNat : Int)])) : TabRel f lo hi w v (.int .i64 ((k + 1 + lo : Nat) : Int)) w1 :=
  ⟨k + 1, hk, rfl, by subst hx; rw [tabL, List.map_append]; exact ho', (hb.alloc hb.size o).grown hg (by have := hb.size; simp; omega) (fun g hk => (ho.lt g hk).1)⟩

end Go.Proofs.YtknjpmoimjhddaaDoor
/-
  What the reference's calls Eval, shift and Times of layer 8 answer. No conditions but those typed.
-/
namespace Go.Proofs.YtknjpmoimjhddaaDoor
set_option maxRecDepth 100000
open Go.RowKit
set_option linter.unusedSimpArgs false
set_option linter.unusedVariables false

/-! ### Eval -/
def EvRel (p : List UInt8) (x : UInt8) (w : World) (v t i : Value) (wr : World) : Prop :=
  ∃ k : Nat, k ≤ p.length ∧ i = .int .i64 (k : Int) ∧ v = .int .u8 ((evalL (p.take k) x).toNat : Int) ∧ t = .int .u8 ((powB x k).toNat : Int) ∧ w = wr
theorem eval_take (p : List UInt8) (x : UInt8) (k : Nat) (h : k < p.length) : evalL (p.take (k + 1)) x = xorB (evalL (p.take k) x) (mulB p[k] (powB x k)) := by
  rw [List.take_succ_eq_append_getElem h, eval_snoc, List.length_take, Nat.min_eq_left (by omega)]
  rfl
/-! ### shift -/
def ShiRel (a : UInt8) (j : Nat) (p : List UInt8) (w : World) (v i : Value) (wr : World) : Prop :=
  ∃ k : Nat, k ≤ p.length ∧ i = .int .i64 (k : Int) ∧ wr.ownsRow w.heap.size 5 1 v (j + k) ((shiftL j (scaleL a (p.take k))).map vB) ∧ Below w.heap.size w wr
theorem shi_take (a : UInt8) (j : Nat) (p : List UInt8) (k : Nat) (h : k < p.length) : shiftL j (scaleL a (p.take (k + 1))) = shiftL j (scaleL a (p.take k)) ++ [mulB p[k] a] := by
  rw [List.take_succ_eq_append_getElem h, scaleL, scaleL, List.map_append, shiftL, shiftL, List.append_assoc, mul_comm p[k] a]
  rfl
theorem shi_zero (j : Nat) : (List.replicate j (Value.int .u8 0)) = (shiftL j ([] : List UInt8)).map vB := by
  rw [shiftL, List.append_nil, List.map_replicate]
  rfl
end Go.Proofs.YtknjpmoimjhddaaDoor
/-
  What the reference's calls Mul and Slope of layer 8 answer. No conditions but those typed.
-/
namespace Go.Proofs.YtknjpmoimjhddaaDoor
set_option maxRecDepth 100000
open Go.RowKit
set_option linter.unusedSimpArgs false
set_option linter.unusedVariables false

def InRel (f : Nat → UInt8) (hi : Nat) (w : World) (v i : Value) (wr : World) : Prop :=
  ∃ k : Nat, k ≤ hi ∧ i = .int .i64 (k : Int) ∧ v = .int .u8 ((f k).toNat : Int) ∧ Below w.heap.size w wr

end Go.Proofs.YtknjpmoimjhddaaDoor
/-
  What the reference's calls Slope and Quo of layer 8 answer. No conditions but those typed.
-/
namespace Go.Proofs.YtknjpmoimjhddaaDoor
set_option maxRecDepth 100000
open Go.RowKit
set_option linter.unusedSimpArgs false
set_option linter.unusedVariables false

def addN (x : UInt8) : Nat → UInt8
  | 0 => 0
  | n + 1 => xorB (addN x n) x
theorem addN_parity (x : UInt8) : ∀ n, addN x n = if n % 2 = 0 then 0 else x
  | 0 => rfl
  | n + 1 => by
    rw [addN, addN_parity x n]
    by_cases h : n % 2 = 0
    · rw [if_pos h, if_neg (by omega)]
      exact UInt8.zero_xor
    · rw [if_neg h, if_pos (by omega)]
      exact UInt8.xor_self
theorem slope_addN (p : List UInt8) (k : Nat) : co (slopeL p) k = addN (co p (k + 1)) (k + 1) := by
  rw [co_slope, addN_parity]
  by_cases h : k % 2 = 0
  · rw [if_pos h, if_neg (by omega)]
  · rw [if_neg h, if_pos (by omega)]
theorem slope_length (p : List UInt8) (k : Nat) (h : p.length ≤ k + 1) : co (slopeL p) k = 0 := by
  rw [co_slope, co_ge p (k + 1) h]
  split <;> rfl
theorem slope_tab (p : List UInt8) : plainL (tabL (co (slopeL p)) (p.length - 1)) = plainL (slopeL p) := plain_congr fun k => by
  rw [co_tab]
  split
  · rfl
  · rw [slope_length p k (by omega)]

end Go.Proofs.YtknjpmoimjhddaaDoor
/-
  What the reference's call Quo of layer 8 answers. No conditions but those typed.
-/
namespace Go.Proofs.YtknjpmoimjhddaaDoor
set_option maxRecDepth 100000
open Go.RowKit
set_option linter.unusedSimpArgs false
set_option linter.unusedVariables false

/-- What a division hands back: both plain. -/
def QuoRes (p q : List UInt8) (w : World) (e : Ending) (w' : World) : Prop :=
  ∃ (a r : List UInt8) (A B : Option Addr) (n m c d : Nat), e = .returned (.tuple #[.slice A n c, .slice B m d]) ∧ Hid (a.length = n) ∧ Hid (r.length = m) ∧ n ≤ c ∧ m ≤ d ∧ Rd vB w' A a ∧ Rd vB w' B r ∧ Below w.heap.size w w' ∧ Hid (IsQuo p q a r ∧ plainL a = a ∧ plainL r = r)
def DivRel (p q : List UInt8) (w : World) (u v : Value) (wr : World) : Prop :=
  ∃ (a l : List UInt8) (A B : Option Addr) (n m c d : Nat), u = .slice B m d ∧ v = .slice A n c ∧ Hid (a.length = n) ∧ Hid (l.length = m) ∧ n ≤ c ∧ m ≤ d ∧ n ≤ 50001 ∧ m ≤ 50000 ∧ Rd vB wr A a ∧ Rd vB wr B l ∧ Below w.heap.size w wr ∧ Hid (Eqv (addL (mulL a q) l) p ∧ plainL a = a ∧ plainL l = l)
theorem plain_mul_nil (q l : List UInt8) : Eqv (addL (mulL [] q) l) l := fun k => by
  rw [mulL, addL]
theorem quo_often_len (a : List UInt8) (n : Nat) (t : UInt8) : (plainL (addL a (shiftL n [t]))).length ≤ max a.length (n + 1) := by
  refine Nat.le_trans (plain_len _) ?_
  rw [addL_length, shift_length]
  exact Nat.le_refl _

theorem scale_one_shift (t : UInt8) (j : Nat) : shiftL j (scaleL t [1]) = shiftL j [t] := by
  rw [scaleL, List.map_cons, List.map_nil, mul_one]
end Go.Proofs.YtknjpmoimjhddaaDoor
/-
  Layer 7: how the program reckons: products by doubling, powers by squaring. Plain.
-/
namespace Go.Proofs.YtknjpmoimjhddaaDoor
set_option maxRecDepth 100000

/-! ### A product by doubling: the bits of the second one below j -/
def lowB (b : UInt8) (j : Nat) : UInt8 := UInt8.ofNat (b.toNat % 2 ^ j)
def dblB (a : UInt8) (j : Nat) : UInt8 := mulB a (powB 2 j)
theorem lowB_zero (b : UInt8) : lowB b 0 = 0 := by
  unfold lowB
  rw [Nat.pow_zero, Nat.mod_one]
  rfl
theorem lowB_eight (b : UInt8) : lowB b 8 = b := by
  have h : b.toNat % 2 ^ 8 = b.toNat := Nat.mod_eq_of_lt b.toNat_lt
  unfold lowB
  rw [h, UInt8.ofNat_toNat]
theorem low_table : ∀ j, j < 8 → ∀ n, n < 256 → UInt8.ofNat (n % 2 ^ (j + 1)) = addB (UInt8.ofNat (n % 2 ^ j)) (if n / 2 ^ j % 2 = 1 then powB 2 j else 0) := by decide +kernel
theorem low_step (b : UInt8) (j : Nat) (hj : j < 8) : lowB b (j + 1) = addB (lowB b j) (if b.toNat / 2 ^ j % 2 = 1 then powB 2 j else 0) :=
  low_table j hj b.toNat b.toNat_lt
theorem dbl_zero (a : UInt8) : dblB a 0 = a := mul_one a
theorem dbl_step (a : UInt8) (j : Nat) : mulB (dblB a j) 2 = dblB a (j + 1) := by
  unfold dblB
  rw [mul_assoc]
  rfl
theorem mul_step (a b : UInt8) (j : Nat) (hj : j < 8) : addB (mulB a (lowB b j)) (if b.toNat / 2 ^ j % 2 = 1 then dblB a j else 0) = mulB a (lowB b (j + 1)) := by
  rw [low_step b j hj, mul_add_right]
  congr 1
  split
  · rfl
  · rw [mul_zero]
theorem mul_start (a b : UInt8) : mulB a (lowB b 0) = 0 := by rw [lowB_zero, mul_zero]
theorem mul_end (a b : UInt8) : mulB a (lowB b 8) = mulB a b := by rw [lowB_eight]
/-- Twice an element. -/
theorem times_table : ∀ n, n < 256 → (mulB (UInt8.ofNat n) 2).toNat = (n * 2 % 256) ^^^ (n / 128 * 45) := by decide +kernel
theorem times_any (a : UInt8) : (mulB a 2).toNat = (a.toNat * 2 % 256) ^^^ (a.toNat / 128 * 45) := by
  have := times_table a.toNat a.toNat_lt
  rwa [UInt8.ofNat_toNat] at this

/-! ### A power by squaring -/
def sqB (a : UInt8) (j : Nat) : UInt8 := powB a (2 ^ j)
theorem sq_zero (a : UInt8) : sqB a 0 = a := by
  unfold sqB
  rw [Nat.pow_zero]
  show mulB 1 a = a
  exact one_mul a
theorem sq_step (a : UInt8) (j : Nat) : mulB (sqB a j) (sqB a j) = sqB a (j + 1) := by
  unfold sqB
  rw [← pow_add, Nat.pow_succ, Nat.mul_two]
theorem pow_start (a : UInt8) (r : Nat) : powB a (r % 2 ^ 0) = 1 := by rw [Nat.pow_zero, Nat.mod_one]; rfl
theorem pow_bit (a : UInt8) (r j : Nat) (h : r / 2 ^ j % 2 = 1) : mulB (powB a (r % 2 ^ j)) (sqB a j) = powB a (r % 2 ^ (j + 1)) := by
  unfold sqB
  rw [← pow_add, Nat.mod_pow_succ, h, Nat.mul_one]
theorem pow_none (a : UInt8) (r j : Nat) (h : ¬ r / 2 ^ j % 2 = 1) : powB a (r % 2 ^ j) = powB a (r % 2 ^ (j + 1)) := by
  have h0 : r / 2 ^ j % 2 = 0 := by omega
  rw [Nat.mod_pow_succ, h0, Nat.mul_zero, Nat.add_zero]
theorem pow_end (a : UInt8) (r : Nat) (h : r < 255) : powB a (r % 2 ^ 8) = powB a r := by rw [Nat.mod_eq_of_lt (by omega)]

/-! ### A logarithm by trying -/
theorem log_not (a : UInt8) (j : Nat) (ha : a ≠ 0) (hj : j < logB a) : powB 2 j ≠ a := by
  intro e
  have hl := log_lt a ha
  have := log_exp j (by omega)
  rw [e] at this
  omega
end Go.Proofs.YtknjpmoimjhddaaDoor
/-
  What the program's calls of layer 7 answer, over the landed code: products by doubling, powers by squaring, logarithms by trying.
-/
namespace Go.Proofs.YtknjpmoimjhddaaDoor
set_option maxRecDepth 100000
open Go.RowKit
set_option linter.unusedSimpArgs false
set_option linter.unusedVariables false

theorem gfadd_any (a b : UInt8) (w : World) : Calls Tryd.prog 56 #[.int .u8 (a.toNat : Int), .int .u8 (b.toNat : Int)] w fun e w' => e = .returned (.int .u8 ((addB a b).toNat : Int)) ∧ w = w' := by
  have hx := u8_xor_b a b
  have HE : Hid (addB a b = xorB a b) := rfl
  rw [HE.out]
  generalize xorB a b = z at hx
  go_enter Tryd.func56, Tryd.ntmps56
  go_wp2_with fail
  go_ret
  exact ⟨rfl, rfl⟩
theorem times_val (a : UInt8) : bits .xor .u8 ((a.toNat : Int) * 2 % 256) ((a.toNat : Int) / 128 * 45 % 256) = ((mulB a 2).toNat : Int) := by
  have h := a.toNat_lt
  have e1 : (a.toNat : Int) * 2 % 256 = ((a.toNat * 2 % 256 : Nat) : Int) := by omega
  have e2 : (a.toNat : Int) / 128 * 45 % 256 = ((a.toNat / 128 * 45 : Nat) : Int) := by omega
  rw [e1, e2, u8_xor_nat _ _ (by omega) (by omega), times_any]
theorem gftimes_any (a : UInt8) (w : World) : Calls Tryd.prog 91 #[.int .u8 (a.toNat : Int)] w fun e w' => e = .returned (.int .u8 ((mulB a 2).toNat : Int)) ∧ w = w' := by
  have hx := times_val a
  generalize (mulB a 2).toNat = z at hx ⊢
  go_enter Tryd.func91, Tryd.ntmps91
  go_wp2_with fail
  go_ret
  exact ⟨rfl, rfl⟩
theorem and_table : ∀ n : Nat, n < 256 → bits .and .u8 (n : Int) 1 = ((n % 2 : Nat) : Int) := by decide +kernel
theorem bit_val (b : UInt8) (j : Nat) : bits .and .u8 ((b.toNat : Int) / 2 ^ j) 1 = ((b.toNat / 2 ^ j % 2 : Nat) : Int) := by
  have e : (b.toNat : Int) / 2 ^ j = ((b.toNat / 2 ^ j : Nat) : Int) := by rw [Int.natCast_ediv, Int.natCast_pow]; rfl
  have h : b.toNat / 2 ^ j ≤ b.toNat := Nat.div_le_self _ _
  have h2 := b.toNat_lt
  rw [e, and_table _ (by omega)]
theorem mul_val (a b : UInt8) (j : Nat) (hj : j < 8) : bits .xor .u8 ((mulB a (lowB b j)).toNat : Int) (((dblB a j).toNat : Int) * bits .and .u8 ((b.toNat : Int) / 2 ^ j) 1 % 256) = ((mulB a (lowB b (j + 1))).toNat : Int) := by
  rw [bit_val, ← mul_step a b j hj]
  have e : ((dblB a j).toNat : Int) * ((b.toNat / 2 ^ j % 2 : Nat) : Int) % 256 = ((if b.toNat / 2 ^ j % 2 = 1 then dblB a j else 0 : UInt8).toNat : Int) := by
    have h := (dblB a j).toNat_lt
    by_cases hb : b.toNat / 2 ^ j % 2 = 1
    · rw [if_pos hb, hb]; omega
    · rw [if_neg hb, show b.toNat / 2 ^ j % 2 = 0 by omega]; show _ = ((0 : Nat) : Int); omega
  rw [e, u8_xor_b]
  rfl
set_option maxRecDepth 100000 in
theorem gfmul_any (a b : UInt8) (w : World) : Calls Tryd.prog 76 #[.int .u8 (a.toNat : Int), .int .u8 (b.toNat : Int)] w fun e w' => e = .returned (.int .u8 ((mulB a b).toNat : Int)) ∧ w = w' := by
  have HD : Hid (dblB a 0 = a) := dbl_zero a
  have HM : Hid (mulB a (lowB b 0) = 0) := mul_start a b
  have HE : Hid (mulB a (lowB b 8) = mulB a b) := mul_end a b
  go_enter Tryd.func76, Tryd.ntmps76
  go_wp2_with fail
  go_loop [0, 5, 7] (fun x p i => ∃ j : Nat, j ≤ 8 ∧ i = .int .i64 (j : Int) ∧ x = .int .u8 ((dblB a j).toNat : Int) ∧ p = .int .u8 ((mulB a (lowB b j)).toNat : Int)) (fun _ _ i => 8 - (intOf i).toNat)
  case atStart => exact ⟨0, by omega, rfl, by rw [HD.out], by rw [HM.out]; rfl⟩
  case round =>
    obtain ⟨j, hj, rfl, rfl, rfl⟩ := hrel
    by_cases hlt : j < 8
    · have i1 : (j : Int) < 8 := by omega
      have i0 : (0 : Int) ≤ (j : Int) := by omega
      have HT : Hid (mulB (dblB a j) 2 = dblB a (j + 1)) := dbl_step a j
      have hv := mul_val a b j hlt
      generalize hx : dblB a j = x at HT hv ⊢
      have HX := Lib.hid hx
      generalize hp : mulB a (lowB b j) = p at hv ⊢
      have HP := Lib.hid hp
      generalize hq : mulB a (lowB b (j + 1)) = q at hv
      have HQ := Lib.hid hq
      clear hx hp hq
      go_wp2_with fail
      refine (gftimes_any x _).mono ?_
      rintro e w' ⟨rfl, rfl⟩
      rw [HT.out]
      generalize hy : dblB a (j + 1) = y
      have HY := Lib.hid hy
      clear hy
      go_wp2_with fail
      go_round
      case rel => exact ⟨j + 1, by omega, by go_num, by rw [HY.out], by rw [HQ.out]⟩
      case measure => simp [intOf]; omega
    · have hj8 : j = 8 := by omega
      subst hj8
      rw [HE.out]
      generalize hp : mulB a b = p
      have HP := Lib.hid hp
      clear hp
      go_wp2_with fail
      go_ret
      exact ⟨ret_int (by rw [HP.out]), rfl⟩

theorem gfreckon_any (n : Int) (r : Nat) (w : World) (hr : (r : Int) = n % 255) : Calls Tryd.prog 93 #[.int .i64 n] w fun e w' => e = .returned (.int .i64 (r : Int)) ∧ w = w' := by
  have h1 : (n.tmod 255 + 255).tmod 255 = (r : Int) := by
    rw [Int.tmod_eq_emod, Int.tmod_eq_emod]
    split <;> split <;> omega
  have h2 : -255 < n.tmod 255 ∧ n.tmod 255 < 255 := by
    rw [Int.tmod_eq_emod]
    split <;> omega
  have h3 : wrap64 (n.tmod 255 + 255) = n.tmod 255 + 255 := by
    unfold wrap64
    omega
  clear hr h2
  go_enter Tryd.func93, Tryd.ntmps93
  go_wp2_with fail
  rw [h3]
  go_ret
  exact ⟨rfl, rfl⟩
theorem gfnone_zero (w : World) : Calls Tryd.prog 92 #[.int .i64 0] w fun e w' => e = .returned (.int .u8 1) ∧ w = w' := by
  go_enter Tryd.func92, Tryd.ntmps92
  go_wp2_with fail
  go_ret
  exact ⟨rfl, rfl⟩
theorem gfnone_any (n : Int) (w : World) (hn : n ≠ 0) : Calls Tryd.prog 92 #[.int .i64 n] w fun e w' => e = .returned (.int .u8 0) ∧ w = w' := by
  have z : (n == 0) = false := beq_eq_false_iff_ne.2 hn
  clear hn
  go_enter Tryd.func92, Tryd.ntmps92
  go_wp2_with fail
  go_ret
  exact ⟨rfl, rfl⟩
theorem i64_bit (r j : Nat) (hr : r < 256) : bits .and .i64 ((r : Int) / 2 ^ j) 1 = ((r / 2 ^ j % 2 : Nat) : Int) := by
  have e : (r : Int) / 2 ^ j = ((r / 2 ^ j : Nat) : Int) := by rw [Int.natCast_ediv, Int.natCast_pow]; rfl
  have h : r / 2 ^ j ≤ r := Nat.div_le_self _ _
  have t : ∀ n : Nat, n < 256 → bits .and .i64 (n : Int) 1 = ((n % 2 : Nat) : Int) := by decide +kernel
  rw [e, t _ (by omega)]
set_option maxRecDepth 100000 in
theorem gfpow_any (a : UInt8) (n : Int) (w : World) : Calls Tryd.prog 89 #[.int .u8 (a.toNat : Int), .int .i64 n] w fun e w' => e = .returned (.int .u8 ((powZ a n).toNat : Int)) ∧ w = w' := by
  by_cases ha : a = 0
  · subst ha
    by_cases hn : n = 0
    · subst hn
      have HE : Hid (powZ 0 0 = 1) := rfl
      rw [HE.out]
      go_enter Tryd.func89, Tryd.ntmps89
      go_wp2_with fail
      refine (gfnone_zero _).mono ?_
      rintro e w' ⟨rfl, rfl⟩
      go_wp2_with fail
      go_ret
      exact ⟨rfl, rfl⟩
    · have HE : Hid (powZ 0 n = 0) := by unfold Hid powZ; rw [if_pos rfl, if_neg hn]
      rw [HE.out]
      have HN := Lib.hid hn
      clear hn
      go_enter Tryd.func89, Tryd.ntmps89
      go_wp2_with fail
      refine (gfnone_any n _ HN.out).mono ?_
      rintro e w' ⟨rfl, rfl⟩
      go_wp2_with fail
      go_ret
      exact ⟨rfl, rfl⟩
  · obtain ⟨r, hr⟩ : ∃ r : Nat, r = (n % 255).toNat := ⟨_, rfl⟩
    have hr1 : (r : Int) = n % 255 := by omega
    have hr2 : r < 255 := by omega
    have HE : Hid (powZ a n = powB a r) := by unfold Hid powZ; rw [if_neg ha, hr]
    rw [HE.out]
    have hne : a.toNat ≠ 0 := fun e => ha (UInt8.toNat_inj.1 e)
    have z1 : ((a.toNat : Int) == 0) = false := beq_eq_false_iff_ne.2 (fun h => hne (by omega))
    have HR := Lib.hid hr1
    have HR2 := Lib.hid hr2
    have HS : Hid (powB a (r % 2 ^ 0) = 1) := pow_start a r
    have HQ0 : Hid (sqB a 0 = a) := sq_zero a
    have HF : Hid (powB a (r % 2 ^ 8) = powB a r) := pow_end a r hr2
    clear ha hne hr hr1 hr2
    go_enter Tryd.func89, Tryd.ntmps89
    go_wp2_with fail
    refine (gfreckon_any n r _ HR.out).mono ?_
    rintro e w' ⟨rfl, rfl⟩
    go_wp2_with fail
    go_loop [0, 5, 13] (fun x p i => ∃ j : Nat, j ≤ 8 ∧ i = .int .i64 (j : Int) ∧ x = .int .u8 ((sqB a j).toNat : Int) ∧ p = .int .u8 ((powB a (r % 2 ^ j)).toNat : Int)) (fun _ _ i => 8 - (intOf i).toNat)
    case atStart => exact ⟨0, by omega, rfl, by rw [HQ0.out], by rw [HS.out]; rfl⟩
    case round =>
      obtain ⟨j, hj, rfl, rfl, rfl⟩ := hrel
      have hr2 := HR2.out
      by_cases hlt : j < 8
      · have i1 : (j : Int) < 8 := by omega
        have i0 : (0 : Int) ≤ (j : Int) := by omega
        have HT : Hid (mulB (sqB a j) (sqB a j) = sqB a (j + 1)) := sq_step a j
        have hb := i64_bit r j (by omega)
        by_cases hbit : r / 2 ^ j % 2 = 1
        · have HB : Hid (mulB (powB a (r % 2 ^ j)) (sqB a j) = powB a (r % 2 ^ (j + 1))) := pow_bit a r j hbit
          rw [hbit] at hb
          generalize sqB a j = x at HT HB ⊢
          generalize powB a (r % 2 ^ j) = p at HB ⊢
          clear hbit
          go_wp2_with fail
          refine (gfmul_any p x _).mono ?_
          rintro e w' ⟨rfl, rfl⟩
          rw [HB.out]
          generalize hq : powB a (r % 2 ^ (j + 1)) = q
          have HQ := Lib.hid hq
          clear hq
          go_wp2_with fail
          refine (gfmul_any x x _).mono ?_
          rintro e w' ⟨rfl, rfl⟩
          rw [HT.out]
          generalize hy : sqB a (j + 1) = y
          have HY := Lib.hid hy
          clear hy
          go_wp2_with fail
          go_round
          case rel => exact ⟨j + 1, by omega, by go_num, by rw [HY.out], by rw [HQ.out]⟩
          case measure => simp [intOf]; omega
        · have HB : Hid (powB a (r % 2 ^ j) = powB a (r % 2 ^ (j + 1))) := pow_none a r j hbit
          rw [show r / 2 ^ j % 2 = 0 by omega] at hb
          generalize sqB a j = x at HT ⊢
          generalize powB a (r % 2 ^ j) = p at HB ⊢
          clear hbit
          go_wp2_with fail
          refine (gfmul_any x x _).mono ?_
          rintro e w' ⟨rfl, rfl⟩
          rw [HT.out]
          generalize hy : sqB a (j + 1) = y
          have HY := Lib.hid hy
          clear hy
          go_wp2_with fail
          go_round
          case rel => exact ⟨j + 1, by omega, by go_num, by rw [HY.out], by rw [HB.out]⟩
          case measure => simp [intOf]; omega
      · have hj8 : j = 8 := by omega
        subst hj8
        rw [HF.out]
        generalize hp : powB a r = p
        have HP := Lib.hid hp
        clear hp
        go_wp2_with fail
        go_ret
        exact ⟨ret_int (by rw [HP.out]), rfl⟩
theorem gfexp_any (n : Int) (w : World) : Calls Tryd.prog 83 #[.int .i64 n] w fun e w' => e = .returned (.int .u8 ((powZ 2 n).toNat : Int)) ∧ w = w' := by
  go_enter Tryd.func83, Tryd.ntmps83
  go_wp2_with fail
  refine (gfpow_any 2 n _).mono ?_
  rintro e w' ⟨rfl, rfl⟩
  go_wp2_with fail
  go_ret
  exact ⟨rfl, rfl⟩
theorem gfinv_zero (w : World) : Calls Tryd.prog 73 #[.int .u8 0] w fun e w' => e = .returned (.tuple #[.int .u8 0, .int .i64 1]) ∧ w = w' := by
  go_enter Tryd.func73, Tryd.ntmps73
  go_wp2_with fail
  go_ret2
  exact ⟨rfl, rfl⟩
theorem gfinv_any (a : UInt8) (w : World) (ha : a ≠ 0) : Calls Tryd.prog 73 #[.int .u8 (a.toNat : Int)] w fun e w' => e = .returned (.tuple #[.int .u8 ((invB a).toNat : Int), .int .i64 0]) ∧ w = w' := by
  have hne : a.toNat ≠ 0 := fun e => ha (UInt8.toNat_inj.1 e)
  have z1 : ((a.toNat : Int) == 0) = false := beq_eq_false_iff_ne.2 (fun h => hne (by omega))
  have HI : Hid (powZ a (-1) = invB a) := by unfold Hid powZ; rw [if_neg ha]; rfl
  clear ha hne
  go_enter Tryd.func73, Tryd.ntmps73
  go_wp2_with fail
  refine (gfpow_any a (-1) _).mono ?_
  rintro e w' ⟨rfl, rfl⟩
  rw [HI.out]
  go_wp2_with fail
  go_ret2
  exact ⟨rfl, rfl⟩
theorem ex_inv : mulB (invB 2) 2 = 1 := by rw [mul_comm]; exact mul_inv 2 (by decide)
theorem ex_log : logB 45 = 8 := by decide +kernel
theorem ex_mul : mulB 128 2 = 45 := by decide +kernel
theorem ex_add : addB 5 3 = 6 := by decide +kernel
theorem ex_exp : powZ 2 8 = 45 := by decide +kernel
theorem ex_pow : powZ 0 0 = 1 := rfl
end Go.Proofs.YtknjpmoimjhddaaDoor
/-
  What the program's calls Degree, cut and Eval of layer 8 answer. No conditions but those typed.
-/
namespace Go.Proofs.YtknjpmoimjhddaaDoor
set_option maxRecDepth 100000
open Go.RowKit Go.Shelf
set_option linter.unusedSimpArgs false
set_option linter.unusedVariables false

attribute [local go_sem] Oper.semAt_some

theorem back_all_zero {p : List UInt8} {n : Nat} (hn : p.length = n) {xs : List (Bk n fun j c => c = co p j)} (hS : backS xs) (h : ∀ x ∈ xs, x.val = 0) : plainL p = [] := by
  refine plain_nil (fun k => ?_)
  rw [co_nil]
  rcases Nat.lt_or_ge k n with hk | hk
  · have hm : k ∈ xs.map Bk.at := by rw [hS, mem_back n n k (Nat.le_refl _)]; omega
    obtain ⟨x, hx, rfl⟩ := List.mem_map.1 hm
    rw [← x.is, h x hx]
  · rw [co_ge p k (by omega)]
theorem back_first {p : List UInt8} {n : Nat} (hn : p.length = n) {ini : List (Bk n fun j c => c = co p j)} {last : Bk n fun j c => c = co p j} (hS : backP (ini ++ [last])) (h : ∀ x ∈ ini, x.val = 0) (hl : last.val ≠ 0) : (plainL p).length = last.at + 1 := by
  obtain ⟨k, hk, hm⟩ := hS
  rw [List.map_append, List.map_cons, List.map_nil] at hm
  obtain ⟨k', rfl⟩ : ∃ k', k = k' + 1 := by
    cases k with
    | zero => simp [backN] at hm
    | succ k' => exact ⟨k', rfl⟩
  rw [back_succ] at hm
  obtain ⟨e1, e2⟩ := List.append_inj' hm rfl
  have e3 : last.at = n - 1 - k' := by simpa using e2
  have h1 := plain_take p (last.at + 1) (by have := last.lt; omega) (fun j hj => by
    rcases Nat.lt_or_ge j n with hjn | hjn
    · have hm : j ∈ ini.map Bk.at := by rw [e1, mem_back n k' j (by omega)]; omega
      obtain ⟨x, hx, rfl⟩ := List.mem_map.1 hm
      rw [← x.is, h x hx]
    · rw [co_ge p j (by omega)]) (.inr (by rw [Nat.add_sub_cancel, ← last.is]; exact hl))
  rw [h1, List.length_take, hn]
  have := last.lt
  omega

/-- What a round keeps: what lay below, and the iterator's own box. -/
def KpB (n₀ Bs : Nat) (W W' : World) : Prop := Below n₀ W W' ∧ W'.heap[Bs]? = W.heap[Bs]?
theorem KpB.refl (n₀ Bs : Nat) (W : World) : KpB n₀ Bs W W := ⟨Below.refl _ _, rfl⟩
theorem KpB.trans {n₀ Bs : Nat} {X Y Z : World} (h : KpB n₀ Bs X Y) (k : KpB n₀ Bs Y Z) : KpB n₀ Bs X Z := ⟨h.1.trans k.1, k.2.trans h.2⟩
theorem KpB.own {n₀ Bs : Nat} {w : World} (hn : n₀ ≤ w.heap.size) (hB : Bs < w.heap.size) (W : World) (l : Nat) (o o' : Obj) (hl : w.heap.size ≤ l) (h : W.heap[l]? = some o) (h1 : o.isCells = false) (h2 : o.isWalk = false) : KpB n₀ Bs W (W.putObj l o') :=
  ⟨belowK_b hn W l o o' hl h h1 h2, World.putObj_heap_other (by omega)⟩

theorem boxed_turn {W W' : World} {row : Option Nat} {B : Nat} {t : TypeId} {v : Value} (h : Boxed W B t v) (hg : W.grownBy W' row) (hr : ∀ r, row = some r → ∃ o : Obj, W.heap[r]? = some o ∧ o.isCells = false) : Boxed W' B t v := boxed_own B t (fun _ : Unit => v) () W W' row h hg hr
theorem cel_turn {W W' : World} {row : Option Nat} {g : Nat} {e : TypeId} {l : List UInt8} (h : Cel W g e l) (hg : W.grownBy W' row) (hr : ∀ r, row = some r → ∃ o : Obj, W.heap[r]? = some o ∧ o.isCells = false) : Cel W' g e l := by
  obtain ⟨L, h1, h2⟩ := h
  refine ⟨L, (hg.block g h1.lt (fun e => ?_)).trans h1, h2⟩
  obtain ⟨o, ho, hc⟩ := hr g e.symm
  have h1' : W.heap[g]? = some (.cells L.toArray _ (0, 0)) := h1
  rw [h1'] at ho
  injection ho with ho
  subst ho
  cases hc

/-- Between two rounds: nothing but 0 has come, and the result's box holds 0; behind one that leaves: what has come last isn't 0, and its place lies there. -/
def DegI (w : World) {n : Nat} {V : Nat → UInt8 → Prop} (pre : List (Bk n V)) (W : World) : Prop := ((∀ x ∈ pre, x.val = 0) ∧ Boxed W w.heap.size 3 (.int .i64 0)) ∧ Below w.heap.size w W
def DegX (w : World) {n : Nat} {V : Nat → UInt8 → Prop} (c : Code) (pre : List (Bk n V)) (W : World) : Prop := (c = .ret ∧ ∃ ini last, pre = ini ++ [last] ∧ (∀ x ∈ ini, x.val = 0) ∧ last.val ≠ 0 ∧ Boxed W w.heap.size 3 (.int .i64 (last.at : Int))) ∧ Below w.heap.size w W
theorem degI_own (w : World) {n : Nat} {V : Nat → UInt8 → Prop} (B : Nat) (hB : w.heap.size ≤ B) : OwnFrom B (DegI w (n := n) (V := V)) :=
  OwnFrom.and (Own.from (fun s A B row hs hg hr => ⟨hs.1, boxed_turn hs.2 hg hr⟩) _) (ownFrom_below (Nat.le_refl _) hB)
theorem degX_own (w : World) {n : Nat} {V : Nat → UInt8 → Prop} (c : Code) (B : Nat) (hB : w.heap.size ≤ B) : OwnFrom B (DegX w c (n := n) (V := V)) :=
  OwnFrom.and (Own.from (fun s A B row hs hg hr => by obtain ⟨hc, ini, last, e1, e2, e3, e4⟩ := hs; exact ⟨hc, ini, last, e1, e2, e3, boxed_turn e4 hg hr⟩) _) (ownFrom_below (Nat.le_refl _) hB)

set_option maxHeartbeats 2000000 in
theorem degP_any (p : List UInt8) (n : Nat) (A : Option Addr) (c : Nat) (w : World) (HN : Hid (p.length = n)) (hr : Rd vB w A p) (hc : n ≤ c) (hn : n ≤ 100000) :
    Calls Tryd.prog 80 #[.slice A n c] w fun e w' => e = .returned (.int .i64 (((plainL p).length : Int) - 1)) ∧ Below w.heap.size w w' := by
  refine (callsIn_wide (n := 3)).1 ?_
  refine callsIn_of_wp_marks Tryd.func80 rfl trivial ?_ rfl
  simp only [Tryd.ntmps80, List.size_toArray, List.length_cons, List.length_nil, Nat.reduceAdd, Nat.reduceSub, Array.replicate_succ, Array.replicate_zero, List.push_toArray, List.append_toArray, List.nil_append, List.cons_append]
  gi_wp2_with (refine ⟨trivial, ?_⟩; gi_at_call 75; refine (callsIn_wide.2 (backward_any _ _ _ _)).mono ?_; rintro e w' ⟨rfl, rfl⟩)
  have bR := Boxed.new w 3 (.int .i64 0)
  have bN := Boxed.new (w.alloc (.cells #[.int .i64 0] 3)) 25 (.slice A n c)
  rw [World.size_alloc] at bN
  have bR' := bR.alloc (.cells #[.slice A n c] 25)
  have hB0 : Below w.heap.size w ((w.alloc (.cells #[.int .i64 0] 3)).alloc (.cells #[.slice A n c] 25)) := ((Below.refl _ w).alloc (Nat.le_refl _) _).alloc (by simp) _
  have hsz : ((w.alloc (.cells #[.int .i64 0] 3)).alloc (.cells #[.slice A n c] 25)).heap.size = w.heap.size + 2 := by simp
  generalize (w.alloc (.cells #[.int .i64 0] 3)).alloc (.cells #[.slice A n c] 25) = W0 at bN bR' hB0 hsz ⊢
  clear bR
  refine wpIn_rangeFunc_ownG rfl (by omega) (gf := 90) (lb := #[.pointer (some ⟨w.heap.size + 1, 0, none⟩)]) rfl trivial (enters_of Tryd.func90 (by kernel_rfl) rfl)
    (back_stops Fence.wide _ trivial rfl (by omega) (w.heap.size + 1) n c A (fun j c => c = co p j) (KpB w.heap.size (w.heap.size + 1)) (by omega) W0 (KpB.refl _ _) (fun _ _ _ => KpB.trans)
      (fun W hW W' hK => ⟨by
        have h1 : W'.heap[w.heap.size + 1]? = W0.heap[w.heap.size + 1]? := hK.2.trans (hW.block _ (by omega))
        exact Boxed.cell (t := 25) (h1.trans bN), p, HN.out, (hr.keep (hB0.trans ((hW.mono (by omega)).trans hK.1))), fun j _ => rfl⟩))
    (fun h k => KpB.trans h k) (KpB.own (by omega) (by omega)) (Below.refl _ _) (fun _ => rfl)
    (DegI w) (DegX w) (degI_own w _ (by omega)) (fun c => degX_own w c _ (by omega))
    ⟨⟨by simp, bR'⟩, hB0⟩
    (fun x => { tmps := #[.slice A n c, undef, .pointer (some ⟨w.heap.size, 0, none⟩), .int .i64 (x.at : Int), .int .u8 (x.val.toNat : Int), .slice A n c, .func (.func 90) #[] #[.pointer (some ⟨w.heap.size + 1, 0, none⟩)], .int .i64 (x.at : Int), .int .u8 (x.val.toNat : Int), undef, undef, undef], defers := [] }) ?assign ?body ?done ?stop
  case assign =>
    intro l x W K hK
    unfold Bk.enc
    gi_wp2
    exact hK
  case body =>
    rintro l pre x W ⟨⟨hp, hcr⟩, hB⟩ _
    have hcc := hcr.cell
    have hff := hcr.frozen
    obtain ⟨y, hy⟩ : ∃ y, x.val = y := ⟨_, rfl⟩
    obtain ⟨q, hq⟩ : ∃ q, x.at = q := ⟨_, rfl⟩
    rw [hy, hq]
    by_cases hx : y = 0
    · subst hx
      have HR : Hid (DegI w (pre ++ [x]) W) := ⟨⟨fun z hz => (List.mem_append.1 hz).elim (hp z) (fun e => by simp at e; subst e; exact hy), hcr⟩, hB⟩
      have e0 : ((0 : UInt8).toNat : Int) = 0 := rfl
      rw [e0]
      clear hp hB hcr hq hy
      gi_wp2
      exact ⟨KeepsFrom.refl _ _, KpB.refl _ _ _, HR.out⟩
    · have hne : ((y.toNat : Int) == 0) = false := by
        have : y.toNat ≠ 0 := fun e => hx (UInt8.toNat_inj.1 e)
        simp
        omega
      have hy0 : x.val ≠ 0 := by rw [hy]; exact hx
      have HR : Hid (DegX w .ret (pre ++ [x]) (W.setCell ⟨w.heap.size, 0, none⟩ (.int .i64 (q : Int)))) :=
        ⟨⟨rfl, pre, x, rfl, hp, hy0, by rw [hq]; exact hcr.set _⟩, hB.setCell (p := ⟨w.heap.size, 0, none⟩) (Nat.le_refl _) _⟩
      clear hp hB hcr hq hy hx hy0
      gi_wp2
      exact ⟨(KeepsOthers.setCell _ _ _).from _, HR.out⟩
  case done =>
    rintro D ys W hD hS ⟨⟨hz, hcr⟩, hB⟩ hK
    have hP := back_all_zero HN.out hS hz
    have hcc := hcr.cell
    have hff := hcr.frozen
    gi_wp2
    have hK' := (KeepsOthers.setCell W ⟨w.heap.size, 0, none⟩ (.int .i64 (-1))).same D _ hK rfl
    refine ⟨by simp, .inl ⟨_, _, rfl, run_takeDeferred hK', ?_⟩⟩
    have hc5 := cell_kept (World.cell?_setCell_same' W ⟨w.heap.size, 0, none⟩ (.int .i64 (-1)) (by rw [hcc]; rfl)) (grownBy_putObj' _ D (.deferred none)) (fun r e => by cases e; exact ⟨_, hK', rfl⟩)
    refine ⟨.int .i64 (-1), ?_, by rw [hP]; rfl, (hB.setCell (p := ⟨w.heap.size, 0, none⟩) (Nat.le_refl _) _).trans (belowK_b (w := w) (Nat.le_refl _) _ D _ _ (by omega) hK' rfl rfl)⟩
    simp [results, Tryd.f80, go_sem, hc5]
  case stop =>
    rintro D c pre W hD hS ⟨⟨rfl, ini, last, rfl, hz, hl, hcr⟩, hB⟩ hK
    have hP := back_first HN.out hS hz hl
    have hcc := hcr.cell
    gi_wp2
    refine ⟨by simp, .inl ⟨_, _, rfl, run_takeDeferred hK, ?_⟩⟩
    have hc5 := cell_kept hcc (grownBy_putObj' _ D (.deferred none)) (fun r e => by cases e; exact ⟨_, hK, rfl⟩)
    refine ⟨.int .i64 (last.at : Int), ?_, by rw [hP, show (((last.at + 1 : Nat) : Int) - 1) = (last.at : Int) by omega], hB.trans (belowK_b (w := w) (Nat.le_refl _) W D _ _ (by omega) hK rfl rfl)⟩
    simp [results, Tryd.f80, go_sem, hc5]

theorem plain_is_take (p : List UInt8) : plainL p = p.take (plainL p).length := by
  by_cases h : plainL p = []
  · rw [h]
    simp
  · have h1 := plain_take p (plainL p).length (plain_len p) (fun k hk => plain_ge p k hk) (.inr (plain_top p h))
    exact h1
theorem Rd.plain {w : World} {A : Option Addr} {p : List UInt8} (h : Rd vB w A p) : Rd vB w A (plainL p) := by
  rw [plain_is_take]
  exact h.take _

/-- cut: the same memory, as far as the plain one goes. -/
theorem cutP_any (p : List UInt8) (n : Nat) (A : Option Addr) (c : Nat) (w : World) (HN : Hid (p.length = n)) (hr : Rd vB w A p) (hc : n ≤ c) (hn : n ≤ 100000) :
    Calls Tryd.prog 72 #[.slice A n c] w fun e w' => ∃ k, e = .returned (.slice A k c) ∧ Hid ((plainL p).length = k) ∧ k ≤ n ∧ Below w.heap.size w w' := by
  obtain ⟨k, hk⟩ : ∃ k, (plainL p).length = k := ⟨_, rfl⟩
  have hkn : k ≤ n := by rw [← hk, ← HN.out]; exact plain_len p
  have hd := degP_any p n A c w HN hr hc hn
  have e1 : ((k : Int) - 1) + 1 = (k : Int) := by omega
  rw [hk] at hd
  have HD := Lib.hid hd
  have HK := Lib.hid hk
  have hcut := fun W => run_cut_to (P := Tryd.prog) 25 5 Tryd.underlying25 size_uint8 A n c k (by omega) W
  clear hd hk
  go_enter Tryd.func72, Tryd.ntmps72
  go_wp2_with fail
  refine HD.out.mono ?_
  rintro e w1 ⟨rfl, hb1⟩
  go_wp2_with fail
  go_ret
  exact ⟨k, rfl, HK, hkn, hb1⟩

/-! ### Eval -/
def hornB {n : Nat} {V : Nat → UInt8 → Prop} (x : UInt8) (pre : List (Bk n V)) : UInt8 := (pre.map Bk.val).foldl (fun v c => addB (mulB v x) c) 0
theorem horn_snoc {n : Nat} {V : Nat → UInt8 → Prop} (x : UInt8) (pre : List (Bk n V)) (y : Bk n V) : hornB x (pre ++ [y]) = addB (mulB (hornB x pre) x) y.val := by
  unfold hornB
  rw [List.map_append, List.foldl_append]
  rfl
theorem back_vals {p : List UInt8} {n : Nat} (hn : p.length = n) {xs : List (Bk n fun j c => c = co p j)} (hS : backS xs) : xs.map Bk.val = p.reverse := by
  have h1 : xs.map Bk.val = (xs.map Bk.at).map (co p) := by
    rw [List.map_map]
    exact List.map_congr_left fun x _ => x.is
  rw [h1, hS]
  apply List.ext_getElem
  · rw [List.length_map, back_length, List.length_reverse, hn]
  · intro i h2 h3
    rw [List.length_reverse] at h3
    rw [List.getElem_map, List.getElem_reverse]
    unfold backN
    rw [List.getElem_map, List.getElem_range, co_lt p _ (by omega)]
    congr 1
    omega
theorem horn_all {p : List UInt8} {n : Nat} (hn : p.length = n) (x : UInt8) {xs : List (Bk n fun j c => c = co p j)} (hS : backS xs) : hornB x xs = evalL p x := by
  unfold hornB
  rw [back_vals hn hS, List.foldl_reverse]
  clear hS hn
  induction p with
  | nil => rfl
  | cons a p ih => rw [List.foldr_cons, ih (xs := []), evalL, add_comm, mul_comm]
def EvI (w : World) (x : UInt8) {n : Nat} {V : Nat → UInt8 → Prop} (pre : List (Bk n V)) (W : World) : Prop :=
  (Boxed W (w.heap.size + 1) 5 (.int .u8 ((hornB x pre).toNat : Int)) ∧ Boxed W w.heap.size 5 (.int .u8 (x.toNat : Int))) ∧ Below w.heap.size w W
theorem evI_own (w : World) (x : UInt8) {n : Nat} {V : Nat → UInt8 → Prop} (B : Nat) (hB : w.heap.size ≤ B) : OwnFrom B (EvI w x (n := n) (V := V)) :=
  OwnFrom.and (Own.from (fun s A B row hs hg hr => ⟨boxed_turn hs.1 hg hr, boxed_turn hs.2 hg hr⟩) _) (ownFrom_below (Nat.le_refl _) hB)

set_option maxHeartbeats 2000000 in
theorem evalP_any (p : List UInt8) (x : UInt8) (n : Nat) (A : Option Addr) (c : Nat) (w : World) (HN : Hid (p.length = n)) (hr : Rd vB w A p) (hc : n ≤ c) (hn : n ≤ 50000) :
    Calls Tryd.prog 79 #[.slice A n c, .int .u8 (x.toNat : Int)] w fun e w' => e = .returned (.int .u8 ((evalL p x).toNat : Int)) ∧ Below w.heap.size w w' := by
  refine (callsIn_wide (n := 3)).1 ?_
  refine callsIn_of_wp_marks Tryd.func79 rfl trivial ?_ rfl
  simp only [Tryd.ntmps79, List.size_toArray, List.length_cons, List.length_nil, Nat.reduceAdd, Nat.reduceSub, Array.replicate_succ, Array.replicate_zero, List.push_toArray, List.append_toArray, List.nil_append, List.cons_append]
  gi_wp2_with (refine ⟨trivial, ?_⟩; gi_at_call 75; refine (callsIn_wide.2 (backward_any _ _ _ _)).mono ?_; rintro e w' ⟨rfl, rfl⟩)
  have bX := ((Boxed.new w 5 (.int .u8 (x.toNat : Int))).alloc (.cells #[.int .u8 0] 5)).alloc (.cells #[.slice A n c] 25)
  have bV := (Boxed.new (w.alloc (.cells #[.int .u8 (x.toNat : Int)] 5)) 5 (.int .u8 0)).alloc (.cells #[.slice A n c] 25)
  have bN := Boxed.new ((w.alloc (.cells #[.int .u8 (x.toNat : Int)] 5)).alloc (.cells #[.int .u8 0] 5)) 25 (.slice A n c)
  simp only [World.size_alloc] at bN bV
  have hB0 : Below w.heap.size w (((w.alloc (.cells #[.int .u8 (x.toNat : Int)] 5)).alloc (.cells #[.int .u8 0] 5)).alloc (.cells #[.slice A n c] 25)) := (((Below.refl _ w).alloc (Nat.le_refl _) _).alloc (by simp) _).alloc (by simp; omega) _
  have hsz : (((w.alloc (.cells #[.int .u8 (x.toNat : Int)] 5)).alloc (.cells #[.int .u8 0] 5)).alloc (.cells #[.slice A n c] 25)).heap.size = w.heap.size + 3 := by simp
  generalize ((w.alloc (.cells #[.int .u8 (x.toNat : Int)] 5)).alloc (.cells #[.int .u8 0] 5)).alloc (.cells #[.slice A n c] 25) = W0 at bX bV bN hB0 hsz ⊢
  refine wpIn_rangeFunc_ownG rfl (by omega) (gf := 90) (lb := #[.pointer (some ⟨w.heap.size + 1 + 1, 0, none⟩)]) rfl trivial (enters_of Tryd.func90 (by kernel_rfl) rfl)
    (back_stops Fence.wide _ trivial rfl (by omega) (w.heap.size + 1 + 1) n c A (fun j c => c = co p j) (KpB w.heap.size (w.heap.size + 1 + 1)) (by omega) W0 (KpB.refl _ _) (fun _ _ _ => KpB.trans)
      (fun W hW W' hK => ⟨by
        have h1 : W'.heap[w.heap.size + 1 + 1]? = W0.heap[w.heap.size + 1 + 1]? := hK.2.trans (hW.block _ (by omega))
        exact Boxed.cell (t := 25) (h1.trans bN), p, HN.out, (hr.keep (hB0.trans ((hW.mono (by omega)).trans hK.1))), fun j _ => rfl⟩))
    (fun h k => KpB.trans h k) (KpB.own (by omega) (by omega)) (Below.refl _ _) (fun _ => rfl)
    (EvI w x) (fun _ _ _ => False) (evI_own w x _ (by omega)) (fun _ _ _ _ _ hs _ _ => hs)
    ⟨⟨bV, bX⟩, hB0⟩
    (fun y => { tmps := #[.slice A n c, .int .u8 (x.toNat : Int), undef, .pointer (some ⟨w.heap.size, 0, none⟩), .int .u8 0, .pointer (some ⟨w.heap.size + 1, 0, none⟩), undef, .int .u8 (y.val.toNat : Int), .slice A n c, .func (.func 90) #[] #[.pointer (some ⟨w.heap.size + 1 + 1, 0, none⟩)], .int .i64 (y.at : Int), .int .u8 (y.val.toNat : Int), undef, undef, undef, undef, undef, undef], defers := [] }) ?assign ?body ?done ?stop
  case assign =>
    intro l x W K hK
    unfold Bk.enc
    gi_wp2
    exact hK
  case body =>
    rintro l pre y W ⟨⟨hv, hx⟩, hB⟩ _
    have hvc := hv.cell
    have hvf := hv.frozen
    have hxc := hx.cell
    have HH : Hid (hornB x (pre ++ [y]) = addB (mulB (hornB x pre) x) y.val) := horn_snoc x pre y
    generalize hornB x pre = v at hv hvc HH
    generalize y.val = b at HH ⊢
    have hM : ∀ W, Calls Tryd.prog 76 #[.int .u8 (v.toNat : Int), .int .u8 (x.toNat : Int)] W fun e w'' => e = .returned (.int .u8 ((mulB v x).toNat : Int)) ∧ W = w'' := fun W => gfmul_any v x W
    generalize mulB v x = m at HH hM
    have hA : ∀ W, Calls Tryd.prog 56 #[.int .u8 (m.toNat : Int), .int .u8 (b.toNat : Int)] W fun e w'' => e = .returned (.int .u8 ((addB m b).toNat : Int)) ∧ W = w'' := fun W => gfadd_any m b W
    generalize addB m b = z at HH hA
    have HR : Hid (KeepsFrom W0.heap.size W (W.setCell ⟨w.heap.size + 1, 0, none⟩ (.int .u8 (z.toNat : Int))) ∧ KpB w.heap.size (w.heap.size + 1 + 1) W (W.setCell ⟨w.heap.size + 1, 0, none⟩ (.int .u8 (z.toNat : Int))) ∧ EvI w x (pre ++ [y]) (W.setCell ⟨w.heap.size + 1, 0, none⟩ (.int .u8 (z.toNat : Int)))) :=
      ⟨(KeepsOthers.setCell _ _ _).from _, ⟨(Below.refl _ W).setCell (p := ⟨w.heap.size + 1, 0, none⟩) (Nat.le_succ _) _, Below.heap_setCell W ⟨w.heap.size + 1, 0, none⟩ _ _ (by simp)⟩,
        ⟨by rw [HH.out]; exact hv.set _, hx.kept (grownBy_setCell' W (w.heap.size + 1) _) (by simp)⟩, hB.setCell (p := ⟨w.heap.size + 1, 0, none⟩) (Nat.le_succ _) _⟩
    have HM := Lib.hid hM
    have HA := Lib.hid hA
    clear hM hA hv hx hB HH bX bV bN
    gi_wp2_with (refine ⟨trivial, ?_⟩; first | (gi_at_call 76; refine (CallsIn.inRound l (callsIn_wide.2 (HM.out _))).mono ?_; rintro e w' ⟨rfl, rfl⟩) | (gi_at_call 56; refine (CallsIn.inRound l (callsIn_wide.2 (HA.out _))).mono ?_; rintro e w' ⟨rfl, rfl⟩))
    exact HR.out
  case done =>
    rintro D ys W hD hS ⟨⟨hv, hx⟩, hB⟩ hK
    rw [horn_all HN.out x hS] at hv
    have hvc := hv.cell
    gi_wp2
    refine ⟨by simp, .inl ⟨_, _, rfl, run_takeDeferred hK, ?_⟩⟩
    exact ⟨_, results_tmp rfl _ _ _, rfl, hB.trans (belowK_b (w := w) (Nat.le_refl _) W D _ _ (by omega) hK rfl rfl)⟩
  case stop =>
    rintro D c pre W _ _ h _
    exact h.elim
end Go.Proofs.YtknjpmoimjhddaaDoor
/-
  What the program's call addTimes of layer 8 leaves: a polynomial to which another one, times an element, is added from a place on. No conditions but those typed.
-/
namespace Go.Proofs.YtknjpmoimjhddaaDoor
set_option maxRecDepth 100000
open Go.RowKit
set_option linter.unusedSimpArgs false
set_option linter.unusedVariables false

theorem co_ext {p q : List UInt8} (hl : p.length = q.length) (h : ∀ k, k < p.length → co p k = co q k) : p = q := by
  apply List.ext_getElem hl
  intro i h1 h2
  have := h i h1
  rwa [co_lt p i h1, co_lt q i h2] at this
theorem co_set (l : List UInt8) (i k : Nat) (x : UInt8) (hi : i < l.length) : co (l.set i x) k = if k = i then x else co l k := by
  unfold co
  rw [List.getD_eq_getElem?_getD, List.getD_eq_getElem?_getD, List.getElem?_set]
  by_cases h : i = k
  · subst h
    rw [if_pos rfl, if_pos hi, if_pos rfl]
    rfl
  · rw [if_neg h, if_neg (fun e => h e.symm)]

/-- z added from place o on. -/
def atL (l : List UInt8) (o : Nat) (z : List UInt8) : List UInt8 := addL l (shiftL o z)
theorem at_length (l : List UInt8) (o : Nat) (z : List UInt8) (h : o + z.length ≤ l.length) : (atL l o z).length = l.length := by
  unfold atL
  rw [addL_length, shift_length]
  omega
theorem co_shift_low : ∀ (o : Nat) (z : List UInt8) (k : Nat), k < o → co (shiftL o z) k = 0
  | 0, _, _, h => absurd h (Nat.not_lt_zero _)
  | o + 1, z, 0, _ => rfl
  | o + 1, z, k + 1, h => by
    rw [shift_succ, co_succ]
    exact co_shift_low o z k (by omega)
theorem co_at (l : List UInt8) (o : Nat) (z : List UInt8) (k : Nat) : co (atL l o z) k = addB (co l k) (if k < o then 0 else co z (k - o)) := by
  unfold atL
  rw [co_add]
  split
  · next h => rw [co_shift_low o z k h]
  · next h =>
    have e : k = o + (k - o) := by omega
    conv => lhs; rw [e, co_shift, ← e]
theorem at_nil (l : List UInt8) (o : Nat) (h : o ≤ l.length) : atL l o [] = l := by
  refine co_ext (at_length l o [] (by simpa using h)) (fun k hk => ?_)
  rw [co_at]
  split
  · rw [add_zero]
  · rw [co_nil, add_zero]
theorem at_snoc (l : List UInt8) (o : Nat) (z : List UInt8) (x : UInt8) (h : o + z.length < l.length) :
    (atL l o z).set (o + z.length) (addB (co (atL l o z) (o + z.length)) x) = atL l o (z ++ [x]) := by
  have hl := at_length l o z (by omega)
  refine co_ext (by rw [List.length_set, hl, at_length l o (z ++ [x]) (by rw [List.length_append, List.length_singleton]; omega)]) (fun k hk => ?_)
  rw [co_set _ _ _ _ (by omega), co_at, co_at, co_at]
  split
  · next e =>
    subst e
    rw [if_neg (by omega), if_neg (by omega), Nat.add_sub_cancel_left, co_ge z _ (Nat.le_refl _), add_zero, co_snoc, if_neg (by omega), if_pos rfl]
  · next e =>
    split
    · rfl
    · rw [co_snoc]
      split
      · rfl
      · rw [if_neg (by omega), co_ge z _ (by omega)]

theorem co_pad (P : List UInt8) (r : Nat) (k : Nat) : co (P ++ List.replicate r 0) k = co P k := by
  rcases Nat.lt_or_ge k P.length with h | h
  · unfold co
    rw [List.getD_eq_getElem?_getD, List.getD_eq_getElem?_getD, List.getElem?_append_left h]
  · rw [co_ge P k h]
    unfold co
    rw [List.getD_eq_getElem?_getD, List.getElem?_append_right h, List.getElem?_replicate]
    split <;> rfl
/-- What a copy to the beginning of zeros leaves. -/
theorem pad_is (P : List UInt8) (M : Nat) (h : P.length ≤ M) : ((List.replicate M (0 : UInt8)).take 0 ++ P ++ (List.replicate M 0).drop (0 + P.length)).length = M ∧ Eqv ((List.replicate M (0 : UInt8)).take 0 ++ P ++ (List.replicate M 0).drop (0 + P.length)) P := by
  rw [List.take_zero, List.nil_append, List.drop_replicate]
  refine ⟨by rw [List.length_append, List.length_replicate]; omega, fun k => co_pad P _ k⟩
theorem at_one {T P Q p q : List UInt8} (h1 : Eqv T P) (h2 : Eqv P p) (h3 : Eqv Q q) : plainL (atL T 0 (scaleL 1 Q)) = plainL (addL p q) := plain_congr fun k => by
  rw [co_at, if_neg (Nat.not_lt_zero k), Nat.sub_zero, scale_one, h1 k, h2 k, h3 k, co_add]

theorem mul_snoc (c : UInt8) (Q : List UInt8) : ∀ A : List UInt8, Eqv (mulL (A ++ [c]) Q) (addL (mulL A Q) (shiftL A.length (scaleL c Q)))
  | [] => by
    rw [List.nil_append, mulL, mulL]
    exact (add_congr (Eqv.refl _) zero_cons).trans (addL_nil _)
  | a :: A => by
    rw [List.cons_append, mulL, mulL, List.length_cons, shift_succ]
    exact (add_congr (Eqv.refl _) (((mul_snoc c Q A).cons 0).trans (shift_add _ _))).trans (addL_assoc _ _ _).symm
/-- One round of a product. -/
theorem mul_round {T P Q : List UInt8} {k : Nat} (h : Eqv T (mulL (P.take k) Q)) (hk : k < P.length) : Eqv (atL T k (scaleL P[k] Q)) (mulL (P.take (k + 1)) Q) := by
  rw [List.take_succ_eq_append_getElem hk]
  refine Eqv.trans ?_ (mul_snoc P[k] Q (P.take k)).symm
  have : (P.take k).length = k := by rw [List.length_take]; omega
  rw [this]
  exact add_congr h (Eqv.refl _)
/-- The product of plain ones is plain. -/
theorem mul_plain_is {p q T : List UInt8} (hp : plainL p ≠ []) (hq : plainL q ≠ []) (hl : T.length = (plainL p).length + (plainL q).length - 1) (h : Eqv T (mulL (plainL p) (plainL q))) : T = plainL (mulL p q) := by
  have h1 : plainL (mulL p q) = plainL T := plain_congr (((mul_congr (plain_eqv p) (plain_eqv q)).symm).trans h.symm)
  have h2 := mul_plain_len p q hp hq
  rw [h1] at h2 ⊢
  have h3 := plain_is_take T
  rw [h2, ← hl, List.take_length] at h3
  exact h3.symm
/-- 's[k:]' of a slice whose block is known. -/
theorem run_cut_at {P : Program} (t e : TypeId) (ht : P.underlying t = some (.slice e)) (hz : ∀ w, (sizeOf e).run P w = .ok 1 w) (g o n cap k : Nat) (hk : k ≤ n) (hc : n ≤ cap) (hkc : k < cap) (w : World) :
    (Instr.slice t (.slice (some ⟨g, o, none⟩) n cap) (some (.int .i64 (k : Int))) none none).run P w = .ok (.slice (some ⟨g, o + k, none⟩) (n - k) (cap - k)) w := by
  have ht' : P.underlying t = some (.slice (P.elem t)) := by simp [Program.elem, ht]
  have he : P.elem t = e := by simp [Program.elem, ht]
  rw [run_slice_l w t (some ⟨g, o, none⟩) n cap ht' .i64 (k : Int) (by omega) (by omega), he, hz]
  have : ¬ cap = k := by omega
  simp [Result.andThen, sliced, this, Addr.add]

def AtRel (l q : List UInt8) (a : UInt8) (cap g o m : Nat) (w : World) (i : Value) (wr : World) : Prop :=
  ∃ k : Nat, k ≤ m ∧ i = .int .i64 (k : Int) ∧ CelN wr g 5 cap (atL l o (scaleL a (q.take k))) ∧ Only g w wr

set_option maxHeartbeats 2000000 in
theorem addtimes_cap (l q : List UInt8) (a : UInt8) (cap g o n c m : Nat) (B : Option Addr) (d : Nat) (w : World) (HM : Hid (q.length = m)) (hcel : CelN w g 5 cap l) (hq : Rd vB w B q) (hB : q ≠ [] → ∀ ad, B = some ad → ad.block ≠ g) (hmn : m ≤ n) (hnc : n ≤ c) (hn : o + n ≤ l.length) (hl : l.length ≤ 200000) :
    Calls Tryd.prog 77 #[.slice (some ⟨g, o, none⟩) n c, .slice B m d, .int .u8 (a.toNat : Int)] w fun e w' => (∃ v, e = .returned v) ∧ CelN w' g 5 cap (atL l o (scaleL a q)) ∧ Only g w w' := by
  go_enter Tryd.func77, Tryd.ntmps77
  go_wp2_with fail
  go_loopw [10] (fun i wr => AtRel l q a cap g o m w i wr) (fun i _ => m - (intOf i).toNat)
  case atStart => exact ⟨0, Nat.zero_le _, rfl, by rw [List.take_zero, scaleL, List.map_nil, at_nil l o (by omega)]; exact hcel, Only.refl _ _⟩
  case round =>
    obtain ⟨k, hk, rfl, hc, ho⟩ := hrel
    by_cases h : k < m
    · have j1 : (k : Int) < (m : Int) := by omega
      have j0 : (0 : Int) ≤ (k : Int) := by omega
      have j2 : (k : Int) < (n : Int) := by omega
      have hkq : k < q.length := by rw [HM.out]; exact h
      obtain ⟨b, ob, rfl, hb, hcell⟩ := (hq.only ho hB).at hkq
      have hc0 := hcell k hkq
      unfold vB at hc0
      have hz : (scaleL a (q.take k)).length = k := by unfold scaleL; rw [List.length_map, List.length_take]; omega
      have hs : (atL l o (scaleL a (q.take k))).set (o + k) (addB (co (atL l o (scaleL a (q.take k))) (o + k)) (mulB a q[k])) = atL l o (scaleL a (q.take (k + 1))) := by
        have := at_snoc l o (scaleL a (q.take k)) (mulB a q[k]) (by rw [hz]; omega)
        rw [hz] at this
        rw [this, List.take_succ_eq_append_getElem hkq]
        unfold scaleL
        rw [List.map_append]
        rfl
      have hco := hc.cel.get (o + k) (by rw [at_length l o _ (by rw [hz]; omega)]; omega)
      have hfr := hc.cel.frozen (o + k)
      generalize atL l o (scaleL a (q.take k)) = T at hc hco hs
      generalize q[k] = x at hc0 hs
      have hset := hc.drew.set (o + k) (addB (co T (o + k)) (mulB a x))
      rw [hs] at hset
      generalize co T (o + k) = y at hco hset
      rw [mul_comm a x] at hset
      have hM : ∀ W, Calls Tryd.prog 76 #[.int .u8 (x.toNat : Int), .int .u8 (a.toNat : Int)] W fun e w'' => e = .returned (.int .u8 ((mulB x a).toNat : Int)) ∧ w'' = W := fun W => (gfmul_any x a W).mono fun _ _ h => ⟨h.1, h.2.symm⟩
      generalize mulB x a = z at hM hset
      have hA : ∀ W, Calls Tryd.prog 56 #[.int .u8 (y.toNat : Int), .int .u8 (z.toNat : Int)] W fun e w'' => e = .returned (.int .u8 ((addB y z).toNat : Int)) ∧ w'' = W := fun W => (gfadd_any y z W).mono fun _ _ h => ⟨h.1, h.2.symm⟩
      generalize addB y z = u at hA hset
      have HREL : Hid (AtRel l q a cap g o m w (.int .i64 ((k : Int) + 1)) (wr.drew.setCell ⟨g, o + k, none⟩ (.int .u8 (u.toNat : Int)))) := ⟨k + 1, h, by go_num, hset, (ho.drew).setCell _ _⟩
      have HMu := Lib.hid hM
      have HAd := Lib.hid hA
      clear hset hc ho hs hcell hkq hM hA
      go_wp2_with fail
      refine wp_region_still_tail 11 (by kernel_rfl) (by kernel_rfl) ?_
      simp only [List.take_succ_cons, List.take_zero, List.drop_succ_cons, List.drop_zero]
      iterate 8 still_step
      still_call (HMu.out _)
      still_call (HAd.out _)
      still_step
      refine wpStill_nil ?_
      change wpList _ _ _ _ _ wr.drew
      go_wp2_with fail
      go_roundw
      case rel => exact HREL.out
      case measure => simp [intOf] <;> omega
    · have hkm : k = m := by omega
      subst hkm
      have j1 : ¬ (k : Int) < (k : Int) := by omega
      rw [List.take_of_length_le (by rw [HM.out]; exact Nat.le_refl _)] at hc
      go_wp2_with fail
      go_end0
      exact ⟨⟨_, rfl⟩, hc, ho⟩
theorem addtimes_any (l q : List UInt8) (a : UInt8) (g o n c m : Nat) (B : Option Addr) (d : Nat) (w : World) (HM : Hid (q.length = m)) (hcel : Cel w g 5 l) (hq : Rd vB w B q) (hB : q ≠ [] → ∀ ad, B = some ad → ad.block ≠ g) (hmn : m ≤ n) (hnc : n ≤ c) (hn : o + n ≤ l.length) (hl : l.length ≤ 200000) :
    Calls Tryd.prog 77 #[.slice (some ⟨g, o, none⟩) n c, .slice B m d, .int .u8 (a.toNat : Int)] w fun e w' => (∃ v, e = .returned v) ∧ Cel w' g 5 (atL l o (scaleL a q)) ∧ Only g w w' := by
  obtain ⟨cap, h⟩ := hcel.some_cap
  exact (addtimes_cap l q a cap g o n c m B d w HM h hq hB hmn hnc hn hl).mono fun e w' hh => ⟨hh.1, hh.2.1.cel, hh.2.2⟩
end Go.Proofs.YtknjpmoimjhddaaDoor
/-
  In how many places two are unlike (plain). No conditions but those typed.
-/
namespace Go.Proofs.YtknjpmoimjhddaaDoor
set_option maxRecDepth 100000
set_option linter.unusedVariables false
set_option linter.unusedSimpArgs false

theorem wt_cons (c : UInt8) (b : List UInt8) : wtL (c :: b) = (if c = 0 then 0 else 1) + wtL b := by
  unfold wtL
  by_cases h : c = 0
  · subst h
    rw [List.filter_cons_of_neg (by simp), if_pos rfl, Nat.zero_add]
  · rw [List.filter_cons_of_pos (by simpa using h), if_neg h, List.length_cons, Nat.add_comm]
theorem dif_nil_left (b : List UInt8) : difL [] b = 0 := by simp [difL, wtL]
theorem dif_cons (x y : UInt8) (a b : List UInt8) : difL (x :: a) (y :: b) = (if addB x y = 0 then 0 else 1) + difL a b := by
  unfold difL
  rw [List.zipWith_cons_cons, wt_cons]
theorem dif_set : ∀ (a b : List UInt8) (q : Nat) (z : UInt8), difL a (b.set q z) ≤ difL a b + 1
  | [], b, q, z => by rw [dif_nil_left]; omega
  | x :: a, [], q, z => by simp [difL, wtL]
  | x :: a, y :: b, 0, z => by
    rw [List.set_cons_zero, dif_cons, dif_cons]
    split <;> split <;> omega
  | x :: a, y :: b, q + 1, z => by
    rw [List.set_cons_succ, dif_cons, dif_cons]
    have := dif_set a b q z
    omega
theorem dif_self (a : List UInt8) : difL a a = 0 := by
  unfold difL
  rw [zip_self, wt_zeros]
end Go.Proofs.YtknjpmoimjhddaaDoor
/-
  Layer 10 as plain mathematics: what bytes are mended to is told by Euclid's way to a finder, and Forney's values at its roots. No conditions but those typed.
-/
namespace Go.Proofs.YtknjpmoimjhddaaDoor
set_option maxRecDepth 100000
set_option linter.unusedVariables false
set_option linter.unusedSimpArgs false

/-! ### Mended -/
/-- These are fine, and near enough. -/
def Near (b : List UInt8) (n : Nat) (a : List UInt8) : Prop := a.length = b.length ∧ fineP a n ∧ difL b a ≤ n / 2
theorem dif_comm (a b : List UInt8) : difL a b = difL b a := by
  unfold difL
  rw [List.zipWith_comm]
  congr 1
  congr 1
  funext x y
  exact add_comm _ _
theorem dif_tri : ∀ a b c : List UInt8, a.length = b.length → b.length = c.length → difL a c ≤ difL a b + difL b c
  | [], [], [], _, _ => by simp [difL, wtL]
  | [], _ :: _, _, h, _ => by simp at h
  | [], [], _ :: _, _, h => by simp at h
  | _ :: _, [], _, h, _ => by simp at h
  | _ :: _, _ :: _, [], _, h => by simp at h
  | x :: a, y :: b, z :: c, h, g => by
    have ih := dif_tri a b c (by simpa using h) (by simpa using g)
    rw [dif_cons, dif_cons, dif_cons]
    by_cases h1 : addB x y = 0
    · by_cases h2 : addB y z = 0
      · have e1 := add_zero_eq h1
        have e2 := add_zero_eq h2
        rw [if_pos (by rw [e1, e2, add_self])]
        omega
      · rw [if_pos h1, if_neg h2]
        split <;> omega
    · rw [if_neg h1]
      split <;> split <;> omega
theorem dif_zero {a b : List UInt8} (hl : a.length = b.length) (h : difL a b = 0) : a = b := by
  refine zip_zero a b hl (fun c hc => ?_)
  unfold difL wtL at h
  have := List.eq_nil_of_length_eq_zero h
  rw [List.filter_eq_nil_iff] at this
  simpa using this c hc
theorem near_unique {b a c : List UInt8} {n : Nat} (hl : b.length ≤ 255) (h : Near b n a) (g : Near b n c) : a = c := by
  obtain ⟨h1, h2, h3⟩ := h
  obtain ⟨g1, g2, g3⟩ := g
  refine fine_unique a c n (by omega) (by omega) h2 g2 ?_
  have := dif_tri a b c h1 (by omega)
  rw [dif_comm a b] at this
  omega
theorem near_self {b : List UInt8} {n : Nat} (h : fineP b n) : Near b n b := ⟨rfl, h, by rw [dif_self]; omega⟩

/-! ### Products, so far as some power -/
/-- Alike below a power. -/
def Low (n : Nat) (p q : List UInt8) : Prop := ∀ k, k < n → co p k = co q k
theorem Low.trans {n : Nat} {p q r : List UInt8} (h : Low n p q) (g : Low n q r) : Low n p r := fun k hk => (h k hk).trans (g k hk)
theorem Low.symm {n : Nat} {p q : List UInt8} (h : Low n p q) : Low n q p := fun k hk => (h k hk).symm
theorem Eqv.low {p q : List UInt8} (h : Eqv p q) (n : Nat) : Low n p q := fun k _ => h k
theorem Low.add {n : Nat} {p q p' q' : List UInt8} (h : Low n p p') (g : Low n q q') : Low n (addL p q) (addL p' q') := fun k hk => by rw [co_add, co_add, h k hk, g k hk]
theorem Low.cons {n : Nat} (a : UInt8) {p q : List UInt8} (h : Low n p q) : Low n (a :: p) (a :: q) := fun k hk => by
  cases k with
  | zero => rfl
  | succ k => rw [co_succ, co_succ, h k (by omega)]
theorem Low.scale {n : Nat} (a : UInt8) {p q : List UInt8} (h : Low n p q) : Low n (scaleL a p) (scaleL a q) := fun k hk => by rw [co_scale, co_scale, h k hk]
theorem Low.mul {n : Nat} {q q' : List UInt8} (h : Low n q q') : ∀ p : List UInt8, Low n (mulL p q) (mulL p q')
  | [] => fun _ _ => rfl
  | a :: p => (h.scale a).add ((h.mul p).cons 0)
/-- How many coefficients. -/
def pl (p : List UInt8) : Nat := (plainL p).length
theorem pl_le_iff (p : List UInt8) (n : Nat) : pl p ≤ n ↔ ∀ k, n ≤ k → co p k = 0 := plain_le_iff p n
theorem pl_congr {p q : List UInt8} (h : Eqv p q) : pl p = pl q := by unfold pl; rw [plain_congr h]
theorem pl_len (p : List UInt8) : pl p ≤ p.length := plain_len p
theorem pl_zero {p : List UInt8} (h : pl p = 0) : Eqv p [] := fun k => by rw [co_nil]; exact (pl_le_iff p 0).1 (by omega) k (Nat.zero_le _)
theorem pl_add (p q : List UInt8) : pl (addL p q) ≤ max (pl p) (pl q) := plain_add_len p q
theorem pl_mul (p q : List UInt8) : pl (mulL p q) ≤ pl p + pl q - 1 := by
  by_cases hp : plainL p = []
  · have : Eqv (mulL p q) [] := (mul_congr (pl_zero (p := p) (by unfold pl; rw [hp]; rfl)) (Eqv.refl q)).trans (Eqv.refl _)
    rw [pl_congr this]
    exact Nat.zero_le _
  · by_cases hq : plainL q = []
    · have : Eqv (mulL p q) [] := (mul_congr (Eqv.refl p) (pl_zero (p := q) (by unfold pl; rw [hq]; rfl))).trans (mulL_nil p)
      rw [pl_congr this]
      exact Nat.zero_le _
    · exact Nat.le_of_eq (mul_plain_len p q hp hq)
theorem pl_mul_eq (p q : List UInt8) (hp : 0 < pl p) (hq : 0 < pl q) : pl (mulL p q) = pl p + pl q - 1 := mul_plain_len p q (List.length_pos_iff.1 hp) (List.length_pos_iff.1 hq)

/-! ### Roots -/
/-- Divided by 'r + x'. -/
def synL (r : UInt8) : List UInt8 → List UInt8
  | [] => []
  | [_] => []
  | _ :: d :: p => evalL (d :: p) r :: synL r (d :: p)
theorem syn_is (r : UInt8) : ∀ p : List UInt8, p ≠ [] → (synL r p).length + 1 = p.length ∧ ∀ x, evalL p x = addB (mulB (addB r x) (evalL (synL r p) x)) (evalL p r)
  | [], h => absurd rfl h
  | [c], _ => ⟨rfl, fun x => by simp only [synL, evalL, mul_zero, add_zero, zero_add]⟩
  | c :: d :: p, _ => by
    obtain ⟨h1, h2⟩ := syn_is r (d :: p) (by simp)
    refine ⟨by simp only [synL, List.length_cons] at h1 ⊢; omega, fun x => ?_⟩
    have e := h2 x
    have hs : synL r (c :: d :: p) = evalL (d :: p) r :: synL r (d :: p) := rfl
    rw [hs]
    generalize synL r (d :: p) = q at e
    generalize d :: p = dp at e
    rw [evalL, evalL, evalL, e]
    generalize evalL dp r = v
    generalize evalL q x = y
    simp only [mul_add_right, mul_add_left]
    have e1 : mulB x (mulB r y) = mulB r (mulB x y) := by rw [← mul_assoc, mul_comm x r, mul_assoc]
    rw [e1]
    generalize mulB r (mulB x y) = A
    generalize mulB x (mulB x y) = B
    generalize mulB x v = C
    generalize mulB r v = D
    unfold addB
    have h : C ^^^ (D ^^^ (A ^^^ (B ^^^ (c ^^^ D)))) = c ^^^ (A ^^^ (B ^^^ C)) ^^^ (D ^^^ D) := by ac_rfl
    rw [UInt8.xor_self, UInt8.xor_zero] at h
    calc c ^^^ (A ^^^ B ^^^ C) = c ^^^ (A ^^^ (B ^^^ C)) := by ac_rfl
      _ = C ^^^ (D ^^^ (A ^^^ (B ^^^ (c ^^^ D)))) := h.symm
      _ = _ := by ac_rfl
theorem eval_all_zero : ∀ (R : List UInt8) (p : List UInt8), R.Nodup → p.length ≤ R.length → (∀ r ∈ R, evalL p r = 0) → ∀ x, evalL p x = 0
  | _, [], _, _, _, x => rfl
  | [], c :: p, _, h, _, _ => by simp at h
  | r :: R, c :: p, hd, hl, h, x => by
    obtain ⟨h1, h2⟩ := syn_is r (c :: p) (by simp)
    have hr := h r List.mem_cons_self
    rw [List.nodup_cons] at hd
    have hq : ∀ s ∈ R, evalL (synL r (c :: p)) s = 0 := fun s hs => by
      have e := h2 s
      rw [hr, add_zero, h s (List.mem_cons_of_mem _ hs)] at e
      rcases (mul_eq_zero _ _).1 e.symm with g | g
      · exact absurd (add_zero_eq g ▸ hs) hd.1
      · exact g
    rw [h2 x, hr, add_zero, eval_all_zero R _ hd.2 (by simp only [List.length_cons] at hl h1; omega) hq x, mul_zero]
theorem eqv_all_zero : ∀ (R : List UInt8) (p : List UInt8), R.Nodup → p.length ≤ R.length → (∀ r ∈ R, evalL p r = 0) → ∀ k, co p k = 0
  | _, [], _, _, _, k => co_nil k
  | [], c :: p, _, h, _, _ => by simp at h
  | r :: R, c :: p, hd, hl, h, k => by
    have hr := h r List.mem_cons_self
    have hd' := List.nodup_cons.1 hd
    obtain ⟨h1, h2⟩ := syn_is r (c :: p) (by simp)
    have hq : ∀ s ∈ R, evalL (synL r (c :: p)) s = 0 := fun s hs => by
      have e := h2 s
      rw [hr, add_zero, h s (List.mem_cons_of_mem _ hs)] at e
      rcases (mul_eq_zero _ _).1 e.symm with g | g
      · exact absurd (add_zero_eq g ▸ hs) hd'.1
      · exact g
    have hs := eqv_all_zero R _ hd'.2 (by simp only [List.length_cons] at hl h1; omega) hq
    -- the coefficients of what is divided are told by those of the quotient
    have key : ∀ (p : List UInt8), evalL p r = 0 → (∀ j, co (synL r p) j = 0) → ∀ j, co p j = 0 := by
      intro p
      induction p with
      | nil => intro _ _ j; exact co_nil j
      | cons a p ih =>
        intro he hz j
        match p, ih, he, hz with
        | [], _, he, _ =>
          rw [evalL, evalL, mul_zero, add_zero] at he
          rw [he]
          rw [zero_cons j, co_nil]
        | d :: p, ih, he, hz =>
          have h0 : evalL (d :: p) r = 0 := hz 0
          have hz' : ∀ j, co (synL r (d :: p)) j = 0 := fun j => by
            have := hz (j + 1)
            rwa [synL, co_succ] at this
          rw [evalL, h0, mul_zero, add_zero] at he
          cases j with
          | zero => rw [co_zero]; exact he
          | succ j => rw [co_succ]; exact ih h0 hz' j
    exact key _ hr hs k
/-- No more roots than coefficients but one, or it is nothing. -/
theorem roots_zero (R : List UInt8) (p : List UInt8) (hd : R.Nodup) (hl : pl p ≤ R.length) (h : ∀ r ∈ R, evalL p r = 0) : Eqv p [] := fun k => by
  rw [← plain_eqv p k, co_nil]
  exact eqv_all_zero R (plainL p) hd hl (fun r hr => by rw [eval_congr (plain_eqv p) r]; exact h r hr) k

/-! ### Euclid's way -/
def xN (n : Nat) : List UInt8 := List.replicate n 0 ++ [1]
theorem xN_eval (n : Nat) (r : UInt8) : evalL (xN n) r = powB r n := by
  unfold xN
  rw [eval_snoc, eval_zeros, zero_add, one_mul, List.length_replicate]
theorem xN_low (n : Nat) : Low n (xN n) [] := fun k hk => by
  unfold xN co
  rw [List.getD_eq_getElem?_getD, List.getElem?_append_left (by simpa using hk), List.getElem?_replicate, if_pos hk]
  rfl
theorem xN_length (n : Nat) : (xN n).length = n + 1 := by simp [xN]
theorem xN_pl (n : Nat) : pl (xN n) = n + 1 := by
  unfold pl
  rw [plain_of_top (xN n) (.inr ?_), xN_length]
  rw [xN_length, Nat.add_sub_cancel]
  unfold xN co
  rw [List.getD_eq_getElem?_getD, List.getElem?_append_right (by simp), List.length_replicate, Nat.sub_self]
  decide
/-- What is kept on the way. -/
structure Euc (n : Nat) (S ahead left fa f : List UInt8) : Prop where
  key : Low n (mulL f S) left
  keyA : Low n (mulL fa S) ahead
  det : Eqv (addL (mulL f ahead) (mulL fa left)) (xN n)
  deg : pl f + pl ahead ≤ n + 2
  degA : pl fa + pl ahead ≤ n + 2
  less : pl left < pl ahead
  big : n - n / 2 < pl ahead
theorem euc_start (n : Nat) (S : List UInt8) (hS : S.length = n) : Euc n S (xN n) S [] [1] where
  key := fun k _ => by rw [mulL_comm [1] S k, mulL_one_right 1 S k, scale_one]
  keyA := fun k hk => by rw [xN_low n k hk]; rfl
  det := fun k => by
    rw [co_add, mulL_comm [1] _ k, mulL_one_right 1 _ k, scale_one]
    show addB _ (co [] k) = _
    rw [co_nil, add_zero]
  deg := by rw [xN_pl]; exact Nat.le_of_eq (by show (plainL [1]).length + _ = _; rw [show plainL [1] = [1] by decide]; simp; omega)
  degA := by rw [xN_pl]; show (plainL []).length + _ ≤ _; rw [show plainL [] = [] by rfl]; simp
  less := by rw [xN_pl]; have := pl_len S; omega
  big := by rw [xN_pl]; omega
theorem Euc.step {n : Nat} {S ahead left fa f a r f' : List UInt8} (h : Euc n S ahead left fa f) (hq : IsQuo ahead left a r) (hl : n - n / 2 < pl left) (hf : Eqv f' (addL fa (mulL a f))) : Euc n S left r f f' := by
  have hr : pl r < pl left := hq.2
  have h1 := h.less
  have h2 := h.deg
  have h3 := h.degA
  -- what is left is what is ahead, and so often what was left
  have er : Eqv r (addL ahead (mulL a left)) := fun k => by
    have := hq.1 k
    rw [co_add] at this
    rw [co_add, ← this, add_comm (co (mulL a left) k), add_assoc, add_self, add_zero]
  have ea : pl a + pl left ≤ pl ahead + 1 := by
    by_cases h0 : pl a = 0
    · omega
    · have e1 : pl (mulL a left) = pl a + pl left - 1 := pl_mul_eq a left (by omega) (by omega)
      have e2 : Eqv (mulL a left) (addL ahead r) := fun k => by
        have := hq.1 k
        rw [co_add] at this
        rw [co_add, ← this, add_assoc, add_self, add_zero]
      have e3 := pl_add ahead r
      rw [pl_congr e2] at e1
      omega
  constructor
  · refine Low.trans ((mul_congr hf (Eqv.refl S)).low n) (Low.trans ((mulL_add_left fa (mulL a f) S).low n) (Low.trans ?_ (er.symm.low n)))
    refine h.keyA.add (Low.trans ((mulL_assoc a f S).low n) (h.key.mul a))
  · exact h.key
  · -- the determinant
    intro k
    have e1 : co (mulL f' left) k = addB (co (mulL fa left) k) (co (mulL (mulL a f) left) k) := by
      rw [mul_congr hf (Eqv.refl left) k, mulL_add_left fa (mulL a f) left k, co_add]
    have e2 : co (mulL f r) k = addB (co (mulL f ahead) k) (co (mulL f (mulL a left)) k) := by
      rw [mul_congr (Eqv.refl f) er k, mulL_add_right f ahead (mulL a left) k, co_add]
    have e3 : co (mulL f (mulL a left)) k = co (mulL (mulL a f) left) k := by
      rw [← mulL_assoc f a left k]
      exact mul_congr (mulL_comm f a) (Eqv.refl left) k
    have e4 := h.det k
    rw [co_add] at e4
    rw [co_add, e1, e2, e3, ← e4]
    generalize co (mulL (mulL a f) left) k = u
    generalize co (mulL f ahead) k = x
    generalize co (mulL fa left) k = y
    rw [add_comm x u, ← add_assoc, add_assoc y u u, add_self, add_zero, add_comm]
  · have e1 : pl f' ≤ max (pl fa) (pl a + pl f - 1) := by
      rw [pl_congr hf]
      exact Nat.le_trans (pl_add _ _) (by have := pl_mul a f; omega)
    omega
  · omega
  · exact hr
  · exact hl
/-- There is always more to it than nothing. -/
theorem Euc.notzero {n : Nat} {S ahead left fa f : List UInt8} (h : Euc n S ahead left fa f) (r : UInt8) (hr : r ≠ 0) (h1 : evalL f r = 0) (h2 : evalL left r = 0) : False := by
  have e := eval_congr h.det r
  rw [eval_add, eval_mul, eval_mul, h1, h2, zero_mul, mul_zero, add_zero, xN_eval] at e
  exact pow_ne r hr n e.symm

/-! ### The finder of some places, and what their values are -/
def sigL : List (UInt8 × UInt8) → List UInt8
  | [] => [1]
  | (_, x) :: t => mulL [1, x] (sigL t)
def omL : List (UInt8 × UInt8) → List UInt8
  | [] => []
  | (e, x) :: t => addL (scaleL (mulB e x) (sigL t)) (mulL [1, x] (omL t))
def sumsL (E : List (UInt8 × UInt8)) (n : Nat) : List UInt8 := (List.range n).map fun i => sumV E (i + 1)
theorem co_range (f : Nat → UInt8) (n k : Nat) (h : k < n) : co ((List.range n).map f) k = f k := by
  rw [co_lt _ k (by simpa using h)]
  simp
theorem co_lin (x : UInt8) (p : List UInt8) (k : Nat) : co (mulL [1, x] p) k = addB (co p k) (if k = 0 then 0 else mulB x (co p (k - 1))) := by
  have e : Eqv (mulL [1, x] p) (addL p (0 :: scaleL x p)) := fun j => by
    rw [mulL, co_add, co_add, co_scale, one_mul]
    congr 1
    cases j with
    | zero => rfl
    | succ j =>
      rw [co_succ, co_succ, mulL_comm [x] p j, mulL_one_right x p j]
  rw [e k, co_add]
  cases k with
  | zero => rfl
  | succ k => rw [co_succ, co_scale, if_neg (by omega), Nat.add_sub_cancel]
theorem sig_pl : ∀ E : List (UInt8 × UInt8), pl (sigL E) ≤ E.length + 1
  | [] => by show (plainL [1]).length ≤ 1; decide
  | (e, x) :: t => by
    have h1 := sig_pl t
    have h2 := pl_mul [1, x] (sigL t)
    have h3 := pl_len [1, x]
    simp only [List.length_cons, List.length_nil] at h3 ⊢
    show pl (mulL [1, x] (sigL t)) ≤ _
    omega
theorem om_pl : ∀ E : List (UInt8 × UInt8), pl (omL E) ≤ E.length
  | [] => Nat.le_refl 0
  | (e, x) :: t => by
    have h1 := om_pl t
    have h2 := pl_mul [1, x] (omL t)
    have h3 := pl_len [1, x]
    have h4 := sig_pl t
    have h5 := pl_add (scaleL (mulB e x) (sigL t)) (mulL [1, x] (omL t))
    have h6 : pl (scaleL (mulB e x) (sigL t)) ≤ pl (sigL t) := (pl_le_iff _ _).2 fun k hk => by rw [co_scale, (pl_le_iff _ _).1 (Nat.le_refl _) k hk, mul_zero]
    simp only [List.length_cons, List.length_nil] at h3 ⊢
    show pl (addL (scaleL (mulB e x) (sigL t)) (mulL [1, x] (omL t))) ≤ _
    omega
/-- The finder times the signs is the values' polynomial, below as many powers as there are signs. -/
theorem key_eq (n : Nat) : ∀ E : List (UInt8 × UInt8), Low n (mulL (sigL E) (sumsL E n)) (omL E)
  | [] => fun k hk => by
    rw [sigL, mulL_comm [1] _ k, mulL_one_right 1 _ k, scale_one, omL, co_nil]
    unfold sumsL
    rw [co_range _ _ _ hk]
    rfl
  | (e, x) :: t => by
    have ih := key_eq n t
    -- the sums of one more
    have hs : Low n (sumsL ((e, x) :: t) n) (addL (scaleL e ((List.range n).map fun i => powB x (i + 1))) (sumsL t n)) := fun k hk => by
      unfold sumsL
      rw [co_range _ _ _ hk, co_add, co_scale, co_range _ _ _ hk, co_range _ _ _ hk]
      rfl
    have hg : Low n (mulL [1, x] (scaleL e ((List.range n).map fun i => powB x (i + 1)))) [mulB e x] := fun k hk => by
      rw [co_lin, co_scale, co_range _ _ _ hk]
      cases k with
      | zero =>
        rw [if_pos rfl, add_zero, co_zero]
        show mulB e (mulB 1 x) = _
        rw [one_mul]
      | succ k =>
        rw [if_neg (by omega), Nat.add_sub_cancel, co_scale, co_range _ _ _ (by omega), co_succ, co_nil]
        have e1 : mulB x (mulB e (powB x (k + 1))) = mulB e (powB x (k + 1 + 1)) := by
          rw [pow_succ' x (k + 1), ← mul_assoc, mul_comm x e, mul_assoc, mul_comm x]
        rw [e1, add_self]
    show Low n (mulL (mulL [1, x] (sigL t)) _) (addL (scaleL (mulB e x) (sigL t)) (mulL [1, x] (omL t)))
    refine Low.trans ((hs.mul _)) (Low.trans ((mulL_add_right _ _ _).low n) (Low.add ?_ ?_))
    · -- [1, x] * sigma * G
      refine Low.trans ((mul_congr (mulL_comm [1, x] (sigL t)) (Eqv.refl _)).low n) (Low.trans ((mulL_assoc _ _ _).low n) (Low.trans (hg.mul _) ?_))
      exact (mulL_one_right (mulB e x) (sigL t)).low n
    · exact Low.trans ((mulL_assoc _ _ _).low n) (ih.mul _)
/-- At a power whose inverse is no place the finder isn't 0; at a place it is, and the values' polynomial is as often its slope as the value there. -/
theorem sig_ne (r : UInt8) : ∀ E : List (UInt8 × UInt8), (∀ p ∈ E, mulB p.2 r ≠ 1) → evalL (sigL E) r ≠ 0
  | [], _ => by
    show addB 1 (mulB r 0) ≠ 0
    rw [mul_zero, add_zero]
    decide
  | (e, x) :: t, h => by
    show evalL (mulL [1, x] (sigL t)) r ≠ 0
    rw [eval_mul]
    refine mul_ne _ _ ?_ (sig_ne r t (fun p hp => h p (List.mem_cons_of_mem _ hp)))
    intro e0
    simp only [evalL, mul_zero, add_zero] at e0
    exact h (e, x) List.mem_cons_self (by rw [mul_comm, ← add_zero_eq e0])
theorem lin_eval (x r : UInt8) : evalL [1, x] r = addB 1 (mulB r x) := by simp only [evalL, mul_zero, add_zero]
theorem lin_slope (x r : UInt8) : evalL (slopeL [1, x]) r = x := by
  have e : Eqv (slopeL [1, x]) [x] := fun k => by
    rw [co_slope]
    cases k with
    | zero => rfl
    | succ k =>
      rw [co_succ, co_succ, co_nil]
      split <;> rfl
  rw [eval_congr e]
  simp only [evalL, mul_zero, add_zero]
theorem at_place (Y X r : UInt8) (hX : X ≠ 0) (hr : mulB X r = 1) : ∀ E : List (UInt8 × UInt8), (E.map Prod.snd).Nodup → (Y, X) ∈ E →
    evalL (sigL E) r = 0 ∧ evalL (omL E) r = mulB Y (evalL (slopeL (sigL E)) r) ∧ evalL (slopeL (sigL E)) r ≠ 0
  | [], _, h => by cases h
  | (e, x) :: t, hd, hm => by
    rw [List.map_cons, List.nodup_cons] at hd
    have hsl : evalL (slopeL (sigL ((e, x) :: t))) r = addB (mulB x (evalL (sigL t) r)) (mulB (addB 1 (mulB r x)) (evalL (slopeL (sigL t)) r)) := by
      show evalL (slopeL (mulL [1, x] (sigL t))) r = _
      rw [eval_congr (slope_mul [1, x] (sigL t)) r, eval_add, eval_mul, eval_mul, lin_slope, lin_eval]
    have hom : evalL (omL ((e, x) :: t)) r = addB (mulB (mulB e x) (evalL (sigL t) r)) (mulB (addB 1 (mulB r x)) (evalL (omL t) r)) := by
      show evalL (addL (scaleL (mulB e x) (sigL t)) (mulL [1, x] (omL t))) r = _
      rw [eval_add, eval_scale, eval_mul, lin_eval]
    have hsg : evalL (sigL ((e, x) :: t)) r = mulB (addB 1 (mulB r x)) (evalL (sigL t) r) := by
      show evalL (mulL [1, x] (sigL t)) r = _
      rw [eval_mul, lin_eval]
    rcases List.mem_cons.1 hm with h | h
    · obtain ⟨rfl, rfl⟩ : Y = e ∧ X = x := by simpa using h
      have e0 : addB 1 (mulB r X) = 0 := by rw [mul_comm r X, hr, add_self]
      have hne : evalL (sigL t) r ≠ 0 := sig_ne r t (fun p hp e1 => hd.1 (List.mem_map.2 ⟨p, hp, by
        have : mulB r p.2 = mulB r X := by rw [mul_comm r, mul_comm r, e1, hr]
        refine mul_cancel r _ _ (fun h0 => ?_) this
        rw [h0, mul_zero] at hr
        exact absurd hr (by decide)⟩))
      rw [hsl, hom, hsg, e0, zero_mul, zero_mul, zero_mul, add_zero, add_zero]
      exact ⟨rfl, mul_assoc _ _ _, mul_ne _ _ hX hne⟩
    · obtain ⟨h1, h2, h3⟩ := at_place Y X r hX hr t hd.2 h
      have hne : addB 1 (mulB r x) ≠ 0 := fun e0 => by
        have e1 := add_zero_eq e0
        have : mulB r x = mulB r X := by rw [← e1, mul_comm r X, hr]
        have ex : x = X := mul_cancel r _ _ (fun h0 => by rw [h0, mul_zero] at hr; exact absurd hr (by decide)) this
        exact hd.1 (List.mem_map.2 ⟨(Y, X), h, ex.symm⟩)
      rw [hsl, hom, hsg, h1, h2, mul_zero, mul_zero, mul_zero, zero_add, zero_add]
      refine ⟨rfl, ?_, mul_ne _ _ hne h3⟩
      rw [← mul_assoc, ← mul_assoc, mul_comm Y]

/-! ### What a place is amiss by -/
/-- 2 to the power of so many less than nothing. -/
def rootB (p : Nat) : UInt8 := invB (powB 2 p)
theorem root_mul (p : Nat) : mulB (powB 2 p) (rootB p) = 1 := mul_inv _ (exp_ne p)
theorem root_ne (p : Nat) : rootB p ≠ 0 := inv_ne _ (exp_ne p)
theorem root_inj {i j : Nat} (hi : i < 255) (hj : j < 255) (h : rootB i = rootB j) : i = j := by
  refine powB_inj hi hj ?_
  refine mul_cancel (rootB i) _ _ (root_ne i) ?_
  rw [mul_comm, root_mul, h, mul_comm, root_mul]
def amB (f left : List UInt8) (p : Nat) : UInt8 :=
  if evalL f (rootB p) = 0 then (if evalL (slopeL f) (rootB p) = 0 then 0 else mulB (evalL left (rootB p)) (invB (evalL (slopeL f) (rootB p)))) else 0
/-- The bytes' own, the first one that of the greatest power. -/
def amL (f left : List UInt8) (len : Nat) : List UInt8 := (List.range len).map fun k => amB f left (len - 1 - k)
theorem am_length (f left : List UInt8) (len : Nat) : (amL f left len).length = len := by simp [amL]
theorem co_am (f left : List UInt8) (len k : Nat) (h : k < len) : co (amL f left len) k = amB f left (len - 1 - k) := co_range _ _ _ h
theorem wt_range (g : Nat → UInt8) (n : Nat) : wtL ((List.range n).map g) = ((List.range n).filter fun k => g k != 0).length := by
  unfold wtL
  rw [List.filter_map, List.length_map]
  rfl
theorem am_few (f left : List UInt8) (len d : Nat) (hl : len ≤ 255) (hf : pl f ≤ d + 1) : wtL (amL f left len) ≤ d := by
  refine Nat.le_of_not_lt fun h => ?_
  unfold amL at h
  rw [wt_range] at h
  have hz : ∀ k ∈ ((List.range len).filter fun k => amB f left (len - 1 - k) != 0).map (fun k => rootB (len - 1 - k)), evalL f k = 0 := fun x hx => by
    obtain ⟨k, hk, rfl⟩ := List.mem_map.1 hx
    have := (List.mem_filter.1 hk).2
    unfold amB at this
    by_cases h0 : evalL f (rootB (len - 1 - k)) = 0
    · exact h0
    · rw [if_neg h0] at this
      simp at this
  have hnd : (((List.range len).filter fun k => amB f left (len - 1 - k) != 0).map (fun k => rootB (len - 1 - k))).Nodup := by
    refine nodup_map_on (List.filter_sublist.nodup List.nodup_range) (fun x hx y hy e => ?_)
    have h1 := List.mem_range.1 (List.mem_filter.1 hx).1
    have h2 := List.mem_range.1 (List.mem_filter.1 hy).1
    have := root_inj (by omega) (by omega) e
    omega
  have e := roots_zero _ f hnd (by rw [List.length_map]; omega) hz
  have e2 : ∀ x, evalL (slopeL f) x = 0 := fun x => by
    rw [eval_congr (slope_congr e) x]
    rfl
  have e3 : ((List.range len).filter fun k => amB f left (len - 1 - k) != 0) = [] := List.filter_eq_nil_iff.2 fun k _ => by
    unfold amB
    rw [e2, if_pos rfl]
    split <;> simp
  rw [e3] at h
  simp at h

/-! ### Just what was spoilt -/
theorem co_val_pairs : ∀ (e : List UInt8) (k : Nat), k < e.length → (co e k, powB 2 (e.length - 1 - k)) ∈ pairsL e
  | [], k, h => by simp at h
  | c :: e, 0, _ => by
    rw [pairsL, co_zero, List.length_cons, Nat.sub_zero, Nat.add_sub_cancel]
    exact List.mem_cons_self
  | c :: e, k + 1, h => by
    have h' : k < e.length := by simpa using h
    rw [pairsL, co_succ, List.length_cons, show e.length + 1 - 1 - (k + 1) = e.length - 1 - k by omega]
    exact List.mem_cons_of_mem _ (co_val_pairs e k h')
theorem pairs_at : ∀ (e : List UInt8) (p : UInt8 × UInt8), p ∈ pairsL e → ∃ k, k < e.length ∧ p = (co e k, powB 2 (e.length - 1 - k))
  | [], p, h => by cases h
  | c :: e, p, h => by
    rw [pairsL] at h
    rcases List.mem_cons.1 h with rfl | h
    · exact ⟨0, by simp, by rw [co_zero, List.length_cons, Nat.sub_zero, Nat.add_sub_cancel]⟩
    · obtain ⟨k, hk, rfl⟩ := pairs_at e p h
      exact ⟨k + 1, by simpa using hk, by rw [co_succ, List.length_cons, show e.length + 1 - 1 - (k + 1) = e.length - 1 - k by omega]⟩
def errE (e : List UInt8) : List (UInt8 × UInt8) := (pairsL e).filter fun p => p.1 != 0
theorem signs_err (b a : List UInt8) (n : Nat) (hl : a.length = b.length) (hf : fineP a n) : signsL b n = sumsL (errE (List.zipWith addB b a)) n := by
  unfold signsL sumsL errE
  refine List.map_congr_left fun i hi => ?_
  have hi' := List.mem_range.1 hi
  rw [sumV_filter, ← val_pairs, val_xor _ _ _ hl.symm, hf (i + 1) (by omega) (by omega), add_zero]
/-- What is found is just what was spoilt. -/
theorem am_right {b a : List UInt8} {n : Nat} (h255 : b.length ≤ 255) (hn : Near b n a) {ahead left fa f : List UInt8} (h : Euc n (signsL b n) ahead left fa f) (hd : pl left ≤ n - n / 2) : amL f left b.length = List.zipWith addB b a := by
  obtain ⟨hl, hfine, hdif⟩ := hn
  have hel : (List.zipWith addB b a).length = b.length := by rw [List.length_zipWith]; omega
  have hS := signs_err b a n hl hfine
  have hw : (errE (List.zipWith addB b a)).length ≤ n / 2 := by
    have := pairs_wt (List.zipWith addB b a)
    unfold errE
    rw [this]
    exact hdif
  have hnd : ((errE (List.zipWith addB b a)).map Prod.snd).Nodup := (List.filter_sublist.map Prod.snd).nodup (locs_nodup _ (by omega))
  generalize hee : List.zipWith addB b a = e at hel hS hw hnd
  have hf := h.deg
  have hb := h.big
  have hE1 := sig_pl (errE e)
  have hE2 := om_pl (errE e)
  -- the two are alike, one against the other
  have cross : Eqv (mulL (sigL (errE e)) left) (mulL f (omL (errE e))) := fun k => by
    by_cases hk : k < n
    · have h1 : Low n (mulL (sigL (errE e)) left) (mulL (sigL (errE e)) (mulL f (signsL b n))) := (h.key.symm).mul _
      have h2 : Low n (mulL f (mulL (sigL (errE e)) (signsL b n))) (mulL f (omL (errE e))) := by rw [hS]; exact (key_eq n (errE e)).mul f
      rw [h1 k hk, ← h2 k hk, ← mulL_assoc _ _ _ k, ← mulL_assoc _ _ _ k]
      exact mul_congr (mulL_comm _ _) (Eqv.refl _) k
    · have h1 := pl_mul (sigL (errE e)) left
      have h2 := pl_mul f (omL (errE e))
      rw [(pl_le_iff _ (pl (mulL (sigL (errE e)) left))).1 (Nat.le_refl _) k (by omega), (pl_le_iff _ (pl (mulL f (omL (errE e))))).1 (Nat.le_refl _) k (by omega)]
  have ev : ∀ r, mulB (evalL (sigL (errE e)) r) (evalL left r) = mulB (evalL f r) (evalL (omL (errE e)) r) := fun r => by
    rw [← eval_mul, ← eval_mul]
    exact eval_congr cross r
  have es : ∀ r, addB (mulB (evalL (slopeL (sigL (errE e))) r) (evalL left r)) (mulB (evalL (sigL (errE e)) r) (evalL (slopeL left) r)) = addB (mulB (evalL (slopeL f) r) (evalL (omL (errE e)) r)) (mulB (evalL f r) (evalL (slopeL (omL (errE e))) r)) := fun r => by
    rw [← eval_mul, ← eval_mul, ← eval_mul, ← eval_mul, ← eval_add, ← eval_add, ← eval_congr (slope_mul _ _) r, ← eval_congr (slope_mul _ _) r]
    exact eval_congr (slope_congr cross) r
  refine co_ext (by rw [am_length, hel]) (fun k hk => ?_)
  rw [am_length] at hk
  rw [co_am _ _ _ _ hk]
  have hke : k < e.length := by omega
  obtain ⟨p, hp⟩ : ∃ p, p = b.length - 1 - k := ⟨_, rfl⟩
  rw [← hp]
  have hr := root_ne p
  have hm := root_mul p
  by_cases hc : co e k = 0
  · rw [hc]
    have hsig : evalL (sigL (errE e)) (rootB p) ≠ 0 := by
      refine sig_ne _ _ (fun q hq e1 => ?_)
      obtain ⟨hq1, hq2⟩ := List.mem_filter.1 hq
      obtain ⟨j, hj, rfl⟩ := pairs_at e q hq1
      have e2 : powB 2 (e.length - 1 - j) = powB 2 p := mul_cancel (rootB p) _ _ hr (by rw [mul_comm, e1, mul_comm, hm])
      have := powB_inj (by omega) (by omega) e2
      have ej : j = k := by omega
      rw [ej] at hq2
      simp [hc] at hq2
    unfold amB
    by_cases h0 : evalL f (rootB p) = 0
    · have := ev (rootB p)
      rw [h0, zero_mul] at this
      rcases (mul_eq_zero _ _).1 this with g | g
      · exact absurd g hsig
      · exact absurd (h.notzero _ hr h0 g) id
    · rw [if_neg h0]
  · have hmem : (co e k, powB 2 p) ∈ errE e := by
      refine List.mem_filter.2 ⟨?_, by simpa using hc⟩
      have := co_val_pairs e k hke
      rwa [show e.length - 1 - k = p by omega] at this
    obtain ⟨s1, s2, s3⟩ := at_place _ _ _ (exp_ne p) hm (errE e) hnd hmem
    have hv := ev (rootB p)
    rw [s1, zero_mul, s2] at hv
    have hf0 : evalL f (rootB p) = 0 := by
      rcases (mul_eq_zero _ _).1 hv.symm with g | g
      · exact g
      · exact absurd g (mul_ne _ _ hc s3)
    have hs := es (rootB p)
    rw [s1, hf0, zero_mul, zero_mul, add_zero, add_zero, s2] at hs
    have hleft : evalL left (rootB p) = mulB (co e k) (evalL (slopeL f) (rootB p)) := by
      refine mul_cancel (evalL (slopeL (sigL (errE e))) (rootB p)) _ _ s3 ?_
      rw [hs, ← mul_assoc, mul_comm (evalL (slopeL f) (rootB p)) (co e k), mul_comm (evalL (slopeL (sigL (errE e))) (rootB p)) (mulB _ _)]
    have hsf : evalL (slopeL f) (rootB p) ≠ 0 := fun h0 => h.notzero _ hr hf0 (by rw [hleft, h0, mul_zero])
    unfold amB
    rw [if_pos hf0, if_neg hsf, hleft, mul_assoc, mul_inv _ hsf, mul_one]
/-- What any finder on the way mends. -/
theorem mended_right {b : List UInt8} {n : Nat} (h255 : b.length ≤ 255) {ahead left fa f : List UInt8} (h : Euc n (signsL b n) ahead left fa f) (hd : pl left ≤ n - n / 2) :
    ∃ m, m = List.zipWith addB b (amL f left b.length) ∧ m.length = b.length ∧ difL b m = wtL (amL f left b.length) ∧ (fineP m n → Near b n m) ∧ (∀ a, Near b n a → a = m) := by
  have hal := am_length f left b.length
  have hx : ∀ (x y : List UInt8), x.length = y.length → List.zipWith addB x (List.zipWith addB x y) = y := by
    intro x
    induction x with
    | nil =>
      intro y hy
      have : y = [] := List.eq_nil_of_length_eq_zero (by simpa using hy.symm)
      rw [this]
      rfl
    | cons c x ih =>
      intro y hy
      match y, hy with
      | d :: y, hy =>
        rw [List.zipWith_cons_cons, List.zipWith_cons_cons, ih y (by simpa using hy), ← add_assoc, add_self, zero_add]
  have hdif : difL b (List.zipWith addB b (amL f left b.length)) = wtL (amL f left b.length) := by
    unfold difL
    rw [hx _ _ hal.symm]
  have hlen : (List.zipWith addB b (amL f left b.length)).length = b.length := by rw [List.length_zipWith, hal]; omega
  have hf := h.deg
  have hb := h.big
  refine ⟨_, rfl, hlen, hdif, fun hfine => ⟨hlen, hfine, ?_⟩, fun a ha => ?_⟩
  · rw [hdif]
    exact am_few f left b.length (n / 2) h255 (by omega)
  · rw [am_right h255 ha h hd, hx b a ha.1.symm]

/-! ### The answer -/
open Classical in
noncomputable def mendS (b : List UInt8) (n : Int) : List UInt8 × Nat × Int :=
  if errS b.length n = 0 then (if h : ∃ a, Near b n.toNat a then (h.choose, difL b h.choose, 0) else ([], 0, 6)) else ([], 0, errS b.length n)
theorem mendS_bad {b : List UInt8} {n : Int} (h : errS b.length n ≠ 0) : mendS b n = ([], 0, errS b.length n) := by
  unfold mendS
  rw [if_neg h]
theorem mendS_near {b a : List UInt8} {n : Nat} (h : errS b.length n = 0) (hl : b.length ≤ 255) (ha : Near b n a) : mendS b n = (a, difL b a, 0) := by
  unfold mendS
  have he : ∃ a, Near b ((n : Int)).toNat a := ⟨a, by rw [Int.toNat_natCast]; exact ha⟩
  rw [if_pos h, dif_pos he]
  have hc : Near b n he.choose := he.choose_spec
  rw [near_unique hl hc ha]
theorem mendS_many {b : List UInt8} {n : Nat} (h : errS b.length n = 0) (ha : ∀ a, ¬ Near b n a) : mendS b n = ([], 0, 6) := by
  unfold mendS
  rw [if_pos h, dif_neg (fun ⟨a, h2⟩ => ha a (by rw [Int.toNat_natCast] at h2; exact h2))]
theorem wt_take (l : List UInt8) (j : Nat) (h : j < l.length) : wtL (l.take (j + 1)) = wtL (l.take j) + (if co l j = 0 then 0 else 1) := by
  have e : l.take (j + 1) = l.take j ++ [co l j] := by
    rw [co_lt l j h, List.take_append_getElem h]
  rw [e, wt_append]
  congr 1
  rw [wt_cons]
  show _ + 0 = _
  rw [Nat.add_zero]
end Go.Proofs.YtknjpmoimjhddaaDoor
