/-
  Layer 9 as plain functions: bytes as a polynomial whose last one is the coefficient of 1, signs, what is fine; unlike ones that are fine differ in many places; the generator, and checks by a register. No conditions but those typed.
-/
import Derived.Test.YtankddeolpickaaVander
namespace Go.Proofs.Ytankddeolpickaa
set_option maxRecDepth 100000
set_option linter.unusedVariables false
set_option linter.unusedSimpArgs false

/-- The value of bytes as a polynomial, the last one the coefficient of 1. -/
def valB (b : List UInt8) (r : UInt8) : UInt8 := evalL b.reverse r
theorem val_nil (r : UInt8) : valB [] r = 0 := rfl
theorem val_snoc (b : List UInt8) (c r : UInt8) : valB (b ++ [c]) r = addB c (mulB r (valB b r)) := by
  unfold valB
  rw [List.reverse_append, List.reverse_singleton, List.singleton_append, evalL]
theorem val_cons (c : UInt8) (b : List UInt8) (r : UInt8) : valB (c :: b) r = addB (valB b r) (mulB c (powB r b.length)) := by
  unfold valB
  rw [List.reverse_cons, eval_snoc, List.length_reverse]
theorem val_append (a : List UInt8) (r : UInt8) : ∀ b : List UInt8, valB (b ++ a) r = addB (valB a r) (mulB (valB b r) (powB r a.length))
  | [] => by rw [List.nil_append, val_nil, zero_mul, add_zero]
  | c :: b => by
    rw [List.cons_append, val_cons, val_append a r b, val_cons, mul_add_left, List.length_append, pow_add, ← mul_assoc, add_assoc]
theorem val_xor (r : UInt8) : ∀ a b : List UInt8, a.length = b.length → valB (List.zipWith addB a b) r = addB (valB a r) (valB b r)
  | [], [], _ => (add_zero 0).symm
  | [], _ :: _, h => by simp at h
  | _ :: _, [], h => by simp at h
  | c :: a, d :: b, h => by
    have hl : a.length = b.length := by simpa using h
    rw [List.zipWith_cons_cons, val_cons, val_cons, val_cons, val_xor r a b hl, List.length_zipWith, hl, Nat.min_self, mul_add_left, add_four]
theorem val_scale (c r : UInt8) : ∀ b : List UInt8, valB (b.map (mulB c)) r = mulB c (valB b r)
  | [] => by rw [List.map_nil, val_nil, mul_zero]
  | d :: b => by rw [List.map_cons, val_cons, val_cons, val_scale c r b, List.length_map, mul_add_right, mul_assoc]

/-- Fine, by n checks (how many bytes there may be let aside). -/
def fineP (b : List UInt8) (n : Nat) : Prop := ∀ i, 1 ≤ i → i ≤ n → valB b (powB 2 i) = 0
theorem fineP.less {b : List UInt8} {n m : Nat} (h : fineP b n) (hm : m ≤ n) : fineP b m := fun i h1 h2 => h i h1 (by omega)
theorem fineP.xor {a b : List UInt8} {n : Nat} (ha : fineP a n) (hb : fineP b n) (hl : a.length = b.length) : fineP (List.zipWith addB a b) n := fun i h1 h2 => by
  rw [val_xor _ _ _ hl, ha i h1 h2, hb i h1 h2, add_zero]
theorem fineP.scale {b : List UInt8} {n : Nat} (h : fineP b n) (c : UInt8) : fineP (b.map (mulB c)) n := fun i h1 h2 => by
  rw [val_scale, h i h1 h2, mul_zero]

/-! ### Distance -/
/-- Each byte, and the power of 2 at its place. -/
def pairsL : List UInt8 → List (UInt8 × UInt8)
  | [] => []
  | c :: b => (c, powB 2 b.length) :: pairsL b
theorem val_pairs (i : Nat) : ∀ b : List UInt8, valB b (powB 2 i) = sumV (pairsL b) i
  | [] => rfl
  | c :: b => by
    rw [val_cons, val_pairs i b, pairsL, sumV, add_comm, ← pow_mul, ← pow_mul, Nat.mul_comm]
theorem pairs_locs : ∀ b : List UInt8, (pairsL b).map Prod.snd = ((List.range b.length).map (powB 2)).reverse
  | [] => rfl
  | c :: b => by
    rw [pairsL, List.map_cons, pairs_locs b, List.length_cons, List.range_succ, List.map_append, List.reverse_append]
    rfl
theorem pairs_els : ∀ b : List UInt8, (pairsL b).map Prod.fst = b
  | [] => rfl
  | c :: b => by rw [pairsL, List.map_cons, pairs_els b]
theorem powB_inj {i j : Nat} (hi : i < 255) (hj : j < 255) (h : powB 2 i = powB 2 j) : i = j := by rw [← log_exp i hi, ← log_exp j hj, h]
theorem nodup_map_on {α β : Type} {f : α → β} : ∀ {l : List α}, l.Nodup → (∀ x ∈ l, ∀ y ∈ l, f x = f y → x = y) → (l.map f).Nodup
  | [], _, _ => List.nodup_nil
  | a :: l, h, hf => by
    rw [List.nodup_cons] at h
    rw [List.map_cons, List.nodup_cons]
    refine ⟨fun hm => ?_, nodup_map_on h.2 (fun x hx y hy => hf x (List.mem_cons_of_mem _ hx) y (List.mem_cons_of_mem _ hy))⟩
    obtain ⟨y, hy, e⟩ := List.mem_map.1 hm
    have := hf y (List.mem_cons_of_mem _ hy) a (List.mem_cons_self) e
    exact h.1 (this ▸ hy)
theorem locs_nodup (b : List UInt8) (h : b.length ≤ 255) : ((pairsL b).map Prod.snd).Nodup := by
  rw [pairs_locs]
  refine (List.Perm.nodup_iff (List.reverse_perm _)).2 ?_
  refine nodup_map_on List.nodup_range (fun x hx y hy e => ?_)
  have h1 := List.mem_range.1 hx
  have h2 := List.mem_range.1 hy
  exact powB_inj (by omega) (by omega) e
theorem locs_ne (b : List UInt8) : ∀ p ∈ pairsL b, p.2 ≠ 0 := fun p hp => by
  have : p.2 ∈ (pairsL b).map Prod.snd := List.mem_map_of_mem hp
  rw [pairs_locs, List.mem_reverse] at this
  obtain ⟨k, _, e⟩ := List.mem_map.1 this
  rw [← e]
  exact exp_ne k
theorem sumV_filter (i : Nat) : ∀ l : List (UInt8 × UInt8), sumV (l.filter fun p => p.1 != 0) i = sumV l i
  | [] => rfl
  | (e, x) :: l => by
    have ih := sumV_filter i l
    by_cases h : e = 0
    · subst h
      rw [List.filter_cons_of_neg (by simp), ih, sumV, zero_mul, zero_add]
    · rw [List.filter_cons_of_pos (by simpa using h), sumV, sumV, ih]
/-- How many bytes aren't 0. -/
def wtL (b : List UInt8) : Nat := (b.filter fun c => c != 0).length
theorem pairs_wt : ∀ b : List UInt8, ((pairsL b).filter fun p => p.1 != 0).length = wtL b
  | [] => rfl
  | c :: b => by
    have ih := pairs_wt b
    unfold wtL at *
    by_cases h : c = 0
    · subst h
      rw [pairsL, List.filter_cons_of_neg (by simp), List.filter_cons_of_neg (by simp), ih]
    · rw [pairsL, List.filter_cons_of_pos (by simpa using h), List.filter_cons_of_pos (by simpa using h), List.length_cons, List.length_cons, ih]
/-- What is fine, and not 0 in no more places than there are checks, is 0. -/
theorem fine_zero (b : List UInt8) (n : Nat) (hl : b.length ≤ 255) (hf : fineP b n) (hw : wtL b ≤ n) : ∀ c ∈ b, c = 0 := by
  have hv := vander (wtL b) ((pairsL b).filter fun p => p.1 != 0) (pairs_wt b) ((List.filter_sublist.map Prod.snd).nodup (locs_nodup b hl)) (fun p hp => locs_ne b p (List.mem_filter.1 hp).1)
    (fun i h1 h2 => by rw [sumV_filter, ← val_pairs]; exact hf i h1 (by omega))
  intro c hc
  rw [← pairs_els b] at hc
  obtain ⟨p, hp, e⟩ := List.mem_map.1 hc
  by_cases h : p.1 = 0
  · rw [← e]; exact h
  · exact absurd (hv p (List.mem_filter.2 ⟨hp, by simpa using h⟩)) h
/-- In how many places two differ. -/
def difL (a b : List UInt8) : Nat := wtL (List.zipWith addB a b)
theorem zip_zero : ∀ a b : List UInt8, a.length = b.length → (∀ c ∈ List.zipWith addB a b, c = 0) → a = b
  | [], [], _, _ => rfl
  | [], _ :: _, h, _ => by simp at h
  | _ :: _, [], h, _ => by simp at h
  | c :: a, d :: b, h, hz => by
    rw [List.zipWith_cons_cons] at hz
    have h1 : c = d := add_zero_eq (hz _ List.mem_cons_self)
    have h2 := zip_zero a b (by simpa using h) (fun x hx => hz x (List.mem_cons_of_mem _ hx))
    rw [h1, h2]
theorem fine_unique (a b : List UInt8) (n : Nat) (hl : a.length = b.length) (h255 : a.length ≤ 255) (ha : fineP a n) (hb : fineP b n) (hd : difL a b ≤ n) : a = b :=
  zip_zero a b hl (fine_zero _ n (by rw [List.length_zipWith]; omega) (ha.xor hb hl) hd)
theorem wt_le (b : List UInt8) : wtL b ≤ b.length := List.length_filter_le _ _
theorem wt_append (a b : List UInt8) : wtL (a ++ b) = wtL a + wtL b := by unfold wtL; rw [List.filter_append, List.length_append]
theorem zip_self (a : List UInt8) : List.zipWith addB a a = List.replicate a.length 0 := by
  induction a with
  | nil => rfl
  | cons c a ih => rw [List.zipWith_cons_cons, ih, add_self, List.length_cons, List.replicate_succ]
theorem wt_zeros (n : Nat) : wtL (List.replicate n 0) = 0 := by
  unfold wtL
  rw [List.filter_eq_nil_iff.2 (fun x hx => by rw [(List.mem_replicate.1 hx).2]; simp)]
  rfl
/-- Checks behind the same data differ in no more places than there are. -/
theorem dif_data (d a b : List UInt8) (h : a.length = b.length) : difL (d ++ a) (d ++ b) ≤ a.length := by
  unfold difL
  rw [List.zipWith_append rfl, wt_append, zip_self, wt_zeros, Nat.zero_add]
  refine Nat.le_trans (wt_le _) ?_
  rw [List.length_zipWith]
  omega
/-- Just one way to put checks makes data fine. -/
theorem checks_unique (d a b : List UInt8) (n : Nat) (ha : a.length = n) (hb : b.length = n) (hl : d.length + n ≤ 255) (fa : fineP (d ++ a) n) (fb : fineP (d ++ b) n) : a = b := by
  have := fine_unique (d ++ a) (d ++ b) n (by simp [ha, hb]) (by simp [ha]; omega) fa fb (by rw [← ha]; exact dif_data d a b (by rw [ha, hb]))
  exact List.append_cancel_left this

/-! ### The generator -/
def genL : Nat → List UInt8
  | 0 => [1]
  | n + 1 => plainL (mulL (genL n) [powB 2 (n + 1), 1])
def IsGen (n : Nat) (g : List UInt8) : Prop := g.length = n + 1 ∧ co g n = 1 ∧ ∀ i, 1 ≤ i → i ≤ n → evalL g (powB 2 i) = 0
theorem gen_is : ∀ n, IsGen n (genL n)
  | 0 => ⟨rfl, rfl, fun i h1 h2 => by omega⟩
  | n + 1 => by
    obtain ⟨h1, h2, h3⟩ := gen_is n
    have hg : genL n ≠ [] := by
      intro e
      rw [e] at h1
      simp at h1
    have hlen : (mulL (genL n) [powB 2 (n + 1), 1]).length = n + 2 := by
      rw [mulL_length _ _ hg (by simp), h1]
      simp
    have htop : co (mulL (genL n) [powB 2 (n + 1), 1]) (n + 1) = 1 := by
      have := mulL_top (genL n) [powB 2 (n + 1), 1] hg (by simp)
      rw [h1] at this
      simp only [List.length_cons, List.length_nil] at this
      rw [show n + 1 + (0 + 1 + 1) - 2 = n + 1 by omega, show n + 1 - 1 = n by omega, h2] at this
      rw [this]
      show mulB 1 1 = 1
      exact mul_one 1
    have hp : plainL (mulL (genL n) [powB 2 (n + 1), 1]) = mulL (genL n) [powB 2 (n + 1), 1] := plain_of_top _ (.inr (by
      rw [hlen, show n + 2 - 1 = n + 1 by omega, htop]
      decide))
    have hq : ∀ r, evalL [powB 2 (n + 1), 1] r = addB (powB 2 (n + 1)) r := fun r => by
      simp only [evalL, mul_zero, add_zero, mul_one]
    unfold genL
    rw [hp]
    refine ⟨hlen, htop, fun i hi1 hi2 => ?_⟩
    rw [eval_mul, hq]
    by_cases h : i ≤ n
    · rw [h3 i hi1 h, zero_mul]
    · have : i = n + 1 := by omega
      rw [this, add_self, mul_zero]

/-! ### The register -/
/-- One byte more: the register, of as many bytes as there are checks. -/
def regL (g reg : List UInt8) (top : UInt8) : List UInt8 := List.zipWith addB (0 :: reg.dropLast) ((g.take reg.length).map (mulB top))
theorem reg_length (g reg : List UInt8) (top : UInt8) (h0 : reg ≠ []) (hg : reg.length ≤ g.length) : (regL g reg top).length = reg.length := by
  unfold regL
  have : 0 < reg.length := List.length_pos_iff.2 h0
  rw [List.length_zipWith, List.length_cons, List.length_dropLast, List.length_map, List.length_take]
  omega
theorem eval_zip (r : UInt8) : ∀ a b : List UInt8, a.length = b.length → evalL (List.zipWith addB a b) r = addB (evalL a r) (evalL b r)
  | [], [], _ => (add_zero 0).symm
  | [], _ :: _, h => by simp at h
  | _ :: _, [], h => by simp at h
  | c :: a, d :: b, h => by
    rw [List.zipWith_cons_cons, evalL, evalL, evalL, eval_zip r a b (by simpa using h), mul_add_right, add_four]
theorem eval_split (p : List UInt8) (n : Nat) (r : UInt8) (h : p.length = n + 1) : evalL p r = addB (evalL (p.take n) r) (mulB (co p n) (powB r n)) := by
  have e : p = p.take n ++ [co p n] := by
    conv => lhs; rw [← List.take_append_drop n p]
    congr 1
    have : p.drop n = [p[n]'(by omega)] := by
      rw [List.drop_eq_getElem_cons (by omega), List.drop_of_length_le (by omega)]
    rw [this, co_lt p n (by omega)]
  conv => lhs; rw [e]
  rw [eval_snoc, List.length_take, Nat.min_eq_left (by omega)]
theorem reg_val (n : Nat) (g reg : List UInt8) (d r : UInt8) (hg : IsGen (n + 1) g) (hr : reg.length = n + 1) (h0 : evalL g r = 0) : evalL (regL g reg (addB d (co reg n))) r = addB (mulB r (evalL reg r)) (mulB d (powB r (n + 1))) := by
  obtain ⟨h1, h2, _⟩ := hg
  have e1 := eval_split g (n + 1) r h1
  rw [h2, one_mul, h0] at e1
  have e2 := eval_split reg n r hr
  have hd : reg.dropLast = reg.take n := by rw [List.dropLast_eq_take, hr]; rfl
  unfold regL
  rw [eval_zip r _ _ (by rw [List.length_cons, List.length_dropLast, List.length_map, List.length_take, h1, hr]; omega), evalL, zero_add, hd, hr]
  have e3 : evalL ((g.take (n + 1)).map (mulB (addB d (co reg n)))) r = mulB (addB d (co reg n)) (evalL (g.take (n + 1)) r) := eval_scale _ _ _
  have e4 : evalL (g.take (n + 1)) r = powB r (n + 1) := add_zero_eq e1.symm
  rw [e3, e4, e2, mul_add_right, mul_add_left, show mulB r (mulB (co reg n) (powB r n)) = mulB (co reg n) (powB r (n + 1)) by rw [← mul_assoc, mul_comm r, mul_assoc, mul_comm r]; rfl]
  generalize mulB r (evalL (reg.take n) r) = x
  generalize mulB d (powB r (n + 1)) = y
  generalize mulB (co reg n) (powB r (n + 1)) = z
  rw [add_comm y z, ← add_assoc]
/-- The register behind some data. -/
def runL (g : List UInt8) (n : Nat) (d : List UInt8) : List UInt8 := d.foldl (fun reg c => regL g reg (addB c (co reg (n - 1)))) (List.replicate n 0)
theorem run_snoc (g : List UInt8) (n : Nat) (d : List UInt8) (c : UInt8) : runL g n (d ++ [c]) = regL g (runL g n d) (addB c (co (runL g n d) (n - 1))) := by unfold runL; rw [List.foldl_append]; rfl
theorem snoc_ind {p : List UInt8 → Prop} (h0 : p []) (h1 : ∀ d c, p d → p (d ++ [c])) (d : List UInt8) : p d := by
  rw [← List.reverse_reverse d]
  induction d.reverse with
  | nil => exact h0
  | cons c d ih => rw [List.reverse_cons]; exact h1 _ _ ih
theorem run_length (g : List UInt8) (n : Nat) (hn : 1 ≤ n) (hg : n ≤ g.length) (d : List UInt8) : (runL g n d).length = n := by
  refine snoc_ind (p := fun d => (runL g n d).length = n) ?_ (fun d c ih => ?_) d
  · simp [runL]
  · have h0 : runL g n d ≠ [] := fun e => by rw [e] at ih; simp at ih; omega
    rw [run_snoc, reg_length _ _ _ h0 (by omega), ih]
theorem eval_zeros (n : Nat) (r : UInt8) : evalL (List.replicate n 0) r = 0 := by
  induction n with
  | zero => rfl
  | succ n ih => rw [List.replicate_succ, evalL, ih, mul_zero, add_zero]
theorem run_val (g : List UInt8) (n : Nat) (hn : 1 ≤ n) (hg : IsGen n g) (i : Nat) (h1 : 1 ≤ i) (h2 : i ≤ n) (d : List UInt8) : evalL (runL g n d) (powB 2 i) = mulB (valB d (powB 2 i)) (powB (powB 2 i) n) := by
  refine snoc_ind (p := fun d => evalL (runL g n d) (powB 2 i) = mulB (valB d (powB 2 i)) (powB (powB 2 i) n)) ?_ (fun d c ih => ?_) d
  · rw [val_nil, zero_mul]
    exact eval_zeros n _
  · obtain ⟨m, rfl⟩ : ∃ m, n = m + 1 := ⟨n - 1, by omega⟩
    rw [run_snoc, Nat.add_sub_cancel, reg_val m g _ c _ hg (run_length g _ hn (by rw [hg.1]; omega) d) (hg.2.2 i h1 h2), ih, val_snoc, mul_add_left, add_comm, mul_assoc]
/-- The data, and its checks. -/
def putS (d : List UInt8) (n : Nat) : List UInt8 := d ++ (runL (genL n) n d).reverse
theorem putS_length (d : List UInt8) (n : Nat) (hn : 1 ≤ n) : (putS d n).length = d.length + n := by
  unfold putS
  rw [List.length_append, List.length_reverse, run_length _ n hn (by rw [(gen_is n).1]; omega)]
theorem putS_fine (d : List UInt8) (n : Nat) (hn : 1 ≤ n) : fineP (putS d n) n := fun i h1 h2 => by
  have hl := run_length (genL n) n hn (by rw [(gen_is n).1]; omega) d
  unfold putS
  rw [val_append, List.length_reverse, hl, ← run_val (genL n) n hn (gen_is n) i h1 h2 d]
  unfold valB
  rw [List.reverse_reverse, add_self]
/-- Whatever checks make it fine are these. -/
theorem putS_only (d c : List UInt8) (n : Nat) (hn : 1 ≤ n) (hc : c.length = n) (hl : d.length + n ≤ 255) (hf : fineP (d ++ c) n) : d ++ c = putS d n := by
  unfold putS
  have h1 := run_length (genL n) n hn (by rw [(gen_is n).1]; omega) d
  rw [checks_unique d c (runL (genL n) n d).reverse n hc (by rw [List.length_reverse, h1]) hl hf (putS_fine d n hn)]

/-! ### Signs -/
def signsL (b : List UInt8) (n : Nat) : List UInt8 := (List.range n).map fun i => valB b (powB 2 (i + 1))
theorem signs_length (b : List UInt8) (n : Nat) : (signsL b n).length = n := by simp [signsL]
theorem signs_zero (b : List UInt8) (n : Nat) : (∀ s ∈ signsL b n, s = 0) ↔ fineP b n := by
  unfold signsL fineP
  constructor
  · intro h i h1 h2
    have := h (valB b (powB 2 (i - 1 + 1))) (List.mem_map.2 ⟨i - 1, List.mem_range.2 (by omega), rfl⟩)
    rwa [show i - 1 + 1 = i by omega] at this
  · intro h s hs
    obtain ⟨i, hi, rfl⟩ := List.mem_map.1 hs
    exact h (i + 1) (by omega) (by have := List.mem_range.1 hi; omega)
/-- Why there are no signs. -/
def errS (len : Nat) (n : Int) : Int := if n < 1 ∨ 64 < n then 1 else if (len : Int) < n then 2 else if 255 < len then 4 else 0
def fineS (b : List UInt8) (n : Int) : Bool := decide (errS b.length n = 0) && (signsL b n.toNat).all (· == 0)
theorem fineS_iff (b : List UInt8) (n : Nat) (h1 : 1 ≤ n) (h2 : n ≤ 64) (h3 : n ≤ b.length) (h4 : b.length ≤ 255) : fineS b n = true ↔ fineP b n := by
  unfold fineS errS
  rw [if_neg (by omega), if_neg (by omega), if_neg (by omega), ← signs_zero]
  simp
end Go.Proofs.Ytankddeolpickaa
