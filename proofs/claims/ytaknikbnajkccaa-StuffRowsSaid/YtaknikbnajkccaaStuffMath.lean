/-
  Layer 11 as plain functions: bits of bytes, groups of seven that are alike or eight, and back; what comes of so many bytes; rows. No conditions but those typed.
-/
import Derived.Test.YtaknikbnajkccaaWordMath
namespace Go.Proofs.Ytaknikbnajkccaa
set_option maxRecDepth 100000
set_option linter.unusedVariables false
set_option linter.unusedSimpArgs false

/-! ### Bits -/
def bitB (c : UInt8) (k : Nat) : Bool := decide (c.toNat / 2 ^ k % 2 = 1)
def bits8 (c : UInt8) : List Bool := [bitB c 7, bitB c 6, bitB c 5, bitB c 4, bitB c 3, bitB c 2, bitB c 1, bitB c 0]
def oneB (x : Bool) : UInt8 := if x then 1 else 0
def val8 (l : List Bool) : UInt8 := l.foldl (fun v x => 2 * v + oneB x) 0
def bitsL (b : List UInt8) : List Bool := b.flatMap bits8
theorem all_bytesS {p : UInt8 → Prop} (h : ∀ n, n < 256 → p (UInt8.ofNat n)) (x : UInt8) : p x := by
  have := h x.toNat x.toNat_lt
  rwa [UInt8.ofNat_toNat] at this
theorem val_bits (c : UInt8) : val8 (bits8 c) = c := by
  refine all_bytesS (p := fun c => val8 (bits8 c) = c) ?_ c
  decide +kernel
theorem bits_val : ∀ a b c d e f g h : Bool, bits8 (val8 [a, b, c, d, e, f, g, h]) = [a, b, c, d, e, f, g, h] := by decide +kernel
theorem bits_val8 : ∀ (l : List Bool), l.length = 8 → bits8 (val8 l) = l
  | [a, b, c, d, e, f, g, h], _ => bits_val a b c d e f g h
theorem bits_length (b : List UInt8) : (bitsL b).length = 8 * b.length := by
  induction b with
  | nil => rfl
  | cons c b ih =>
    show (bits8 c ++ bitsL b).length = _
    rw [List.length_append, ih, List.length_cons]
    show 8 + 8 * b.length = _
    omega

/-! ### Groups -/
/-- The next seven bits; where there are fewer, ones behind them. -/
def g7 (l : List Bool) : List Bool := [l.getD 0 true, l.getD 1 true, l.getD 2 true, l.getD 3 true, l.getD 4 true, l.getD 5 true, l.getD 6 true]
def eighth (l : List Bool) : Bool := if g7 l = List.replicate 7 false then true else if g7 l = List.replicate 7 true then false else l.getD 7 true
def taken (l : List Bool) : Nat := if g7 l = List.replicate 7 false ∨ g7 l = List.replicate 7 true then 7 else 8
def stuffF : Nat → List Bool → List UInt8
  | 0, _ => []
  | n + 1, l => if l = [] then [] else val8 (g7 l ++ [eighth l]) :: stuffF n (l.drop (taken l))
def stuffL (l : List Bool) : List UInt8 := stuffF l.length l
def putT (b : List UInt8) : List UInt8 := stuffL (bitsL b)
theorem taken_pos (l : List Bool) : 7 ≤ taken l ∧ taken l ≤ 8 := by unfold taken; split <;> omega
theorem stuffF_more : ∀ (n m : Nat) (l : List Bool), l.length ≤ n → l.length ≤ m → stuffF n l = stuffF m l
  | 0, 0, _, _, _ => rfl
  | 0, m + 1, l, h, _ => by
    have : l = [] := List.eq_nil_of_length_eq_zero (by omega)
    subst this
    rfl
  | n + 1, 0, l, _, h => by
    have : l = [] := List.eq_nil_of_length_eq_zero (by omega)
    subst this
    rfl
  | n + 1, m + 1, l, h, g => by
    unfold stuffF
    split
    · rfl
    · have := taken_pos l
      rw [stuffF_more n m (l.drop (taken l)) (by rw [List.length_drop]; omega) (by rw [List.length_drop]; omega)]
theorem stuff_nil : stuffL [] = [] := rfl
theorem stuff_cons (l : List Bool) (h : l ≠ []) : stuffL l = val8 (g7 l ++ [eighth l]) :: stuffL (l.drop (taken l)) := by
  have hl : 0 < l.length := List.length_pos_iff.2 h
  have := taken_pos l
  unfold stuffL
  obtain ⟨n, hn⟩ : ∃ n, l.length = n + 1 := ⟨l.length - 1, by omega⟩
  rw [hn]
  conv => lhs; unfold stuffF
  rw [if_neg h, stuffF_more n (l.drop (taken l)).length _ (by rw [List.length_drop]; omega) (Nat.le_refl _)]

/-! ### Back -/
def rawG (c : UInt8) : List Bool := if (bits8 c).take 7 = List.replicate 7 false ∨ (bits8 c).take 7 = List.replicate 7 true then (bits8 c).take 7 else bits8 c
def rawL (s : List UInt8) : List Bool := s.flatMap rawG
def cut8 : List Bool → List UInt8
  | a :: b :: c :: d :: e :: f :: g :: h :: t => val8 [a, b, c, d, e, f, g, h] :: cut8 t
  | _ => []
def candL (s : List UInt8) : List UInt8 := cut8 (rawL s)
theorem cut_ones : ∀ p, p < 8 → cut8 (List.replicate p true) = [] := by decide +kernel
theorem cut_bits (p : Nat) (hp : p < 8) : ∀ b : List UInt8, cut8 (bitsL b ++ List.replicate p true) = b
  | [] => cut_ones p hp
  | c :: b => by
    show cut8 (bits8 c ++ bitsL b ++ List.replicate p true) = _
    rw [List.append_assoc]
    show val8 (bits8 c) :: cut8 (bitsL b ++ List.replicate p true) = _
    rw [val_bits, cut_bits p hp b]
theorem g7_length (l : List Bool) : (g7 l ++ [eighth l]).length = 8 := rfl
theorem raw_group (l : List Bool) : rawG (val8 (g7 l ++ [eighth l])) = if g7 l = List.replicate 7 false ∨ g7 l = List.replicate 7 true then g7 l else g7 l ++ [eighth l] := by
  unfold rawG
  rw [bits_val8 _ (g7_length l)]
  rfl
theorem getD_true (l : List Bool) (i : Nat) (h : l.length ≤ i) : l.getD i true = true := by rw [List.getD_eq_getElem?_getD, List.getElem?_eq_none h]; rfl
/-- So many bits from a list, ones behind it. -/
theorem pad_take : ∀ (l : List Bool) (n : Nat), (List.range n).map (fun i => l.getD i true) = l.take n ++ List.replicate (n - l.length) true
  | [], n => by
    rw [List.take_nil, List.nil_append, List.length_nil, Nat.sub_zero]
    apply List.ext_getElem
    · simp
    · intro i h1 h2
      simp
  | a :: l, 0 => by simp
  | a :: l, n + 1 => by
    rw [List.range_succ_eq_map, List.map_cons, List.map_map, List.take_succ_cons, List.cons_append, List.length_cons, Nat.add_sub_add_right, ← pad_take l n]
    rfl
theorem g7_pad (l : List Bool) : g7 l = l.take 7 ++ List.replicate (7 - l.length) true := by rw [← pad_take]; rfl
theorem g8_pad (l : List Bool) : g7 l ++ [l.getD 7 true] = l.take 8 ++ List.replicate (8 - l.length) true := by rw [← pad_take]; rfl
theorem raw_stuff : ∀ (n : Nat) (l : List Bool), l.length ≤ n → ∃ p, p < 8 ∧ rawL (stuffL l) = l ++ List.replicate p true
  | 0, l, h => by
    have : l = [] := List.eq_nil_of_length_eq_zero (by omega)
    subst this
    exact ⟨0, by omega, rfl⟩
  | n + 1, l, h => by
    by_cases h0 : l = []
    · subst h0
      exact ⟨0, by omega, rfl⟩
    · have hl : 0 < l.length := List.length_pos_iff.2 h0
      obtain ⟨p, hp, ih⟩ := raw_stuff n (l.drop (taken l)) (by have := taken_pos l; rw [List.length_drop]; omega)
      have e : rawL (stuffL l) = rawG (val8 (g7 l ++ [eighth l])) ++ rawL (stuffL (l.drop (taken l))) := by rw [stuff_cons l h0]; rfl
      rw [e, ih, raw_group]
      by_cases ha : g7 l = List.replicate 7 false ∨ g7 l = List.replicate 7 true
      · rw [if_pos ha]
        have ht : taken l = 7 := by unfold taken; rw [if_pos ha]
        rw [ht, g7_pad]
        rcases Nat.lt_or_ge l.length 7 with h7 | h7
        · refine ⟨7 - l.length, by omega, ?_⟩
          have hd : l.drop 7 = [] := List.drop_of_length_le (by omega)
          rw [ht, hd] at ih
          have hp0 : p = 0 := by
            have := congrArg List.length ih
            simp [stuff_nil, rawL] at this
            omega
          subst hp0
          rw [hd, List.take_of_length_le (by omega)]
          simp
        · refine ⟨p, hp, ?_⟩
          rw [show 7 - l.length = 0 by omega, List.replicate_zero, List.append_nil, ← List.append_assoc, List.take_append_drop]
      · rw [if_neg ha]
        have ht : taken l = 8 := by unfold taken; rw [if_neg ha]
        have he : eighth l = l.getD 7 true := by
          unfold eighth
          rw [if_neg (fun h => ha (.inl h)), if_neg (fun h => ha (.inr h))]
        rw [ht, he, g8_pad]
        rcases Nat.lt_or_ge l.length 8 with h8 | h8
        · refine ⟨8 - l.length, by omega, ?_⟩
          have hd : l.drop 8 = [] := List.drop_of_length_le (by omega)
          rw [ht, hd] at ih
          have hp0 : p = 0 := by
            have := congrArg List.length ih
            simp [stuff_nil, rawL] at this
            omega
          subst hp0
          rw [hd, List.take_of_length_le (by omega)]
          simp
        · refine ⟨p, hp, ?_⟩
          rw [show 8 - l.length = 0 by omega, List.replicate_zero, List.append_nil, ← List.append_assoc, List.take_append_drop]
theorem cand_put (b : List UInt8) : candL (putT b) = b := by
  obtain ⟨p, hp, e⟩ := raw_stuff _ (bitsL b) (Nat.le_refl _)
  unfold candL putT
  rw [e, cut_bits p hp]
theorem put_inj {a b : List UInt8} (h : putT a = putT b) : a = b := by rw [← cand_put a, h, cand_put]

/-! ### How many -/
theorem stuff_length : ∀ (n : Nat) (l : List Bool), l.length ≤ n → l.length ≤ 8 * (stuffL l).length ∧ 7 * (stuffL l).length ≤ l.length + 6
  | 0, l, h => by
    have : l = [] := List.eq_nil_of_length_eq_zero (by omega)
    subst this
    exact ⟨by simp, by simp [stuff_nil]⟩
  | n + 1, l, h => by
    by_cases h0 : l = []
    · subst h0
      exact ⟨by simp, by simp [stuff_nil]⟩
    · have hl : 0 < l.length := List.length_pos_iff.2 h0
      have ht := taken_pos l
      obtain ⟨h1, h2⟩ := stuff_length n (l.drop (taken l)) (by rw [List.length_drop]; omega)
      rw [stuff_cons l h0, List.length_cons]
      rw [List.length_drop] at h1 h2
      omega
theorem put_length (b : List UInt8) : b.length ≤ (putT b).length ∧ (putT b).length ≤ (8 * b.length + 6) / 7 := by
  obtain ⟨h1, h2⟩ := stuff_length _ (bitsL b) (Nat.le_refl _)
  have := bits_length b
  unfold putT
  omega

/-! ### None of them is all alike -/
theorem group_not (l : List Bool) : val8 (g7 l ++ [eighth l]) ≠ 0 ∧ val8 (g7 l ++ [eighth l]) ≠ 255 := by
  have key : ∀ c : UInt8, val8 (g7 l ++ [eighth l]) = c → g7 l ++ [eighth l] = bits8 c := fun c e => by rw [← e, bits_val8 _ (g7_length l)]
  have e0 : bits8 0 = List.replicate 7 false ++ [false] := by decide +kernel
  have e1 : bits8 255 = List.replicate 7 true ++ [true] := by decide +kernel
  constructor
  · intro e
    have h := key 0 e
    rw [e0] at h
    obtain ⟨h1, h2⟩ := List.append_inj h rfl
    unfold eighth at h2
    rw [if_pos h1] at h2
    simp at h2
  · intro e
    have h := key 255 e
    rw [e1] at h
    obtain ⟨h1, h2⟩ := List.append_inj h rfl
    unfold eighth at h2
    rw [if_neg (by rw [h1]; decide), if_pos h1] at h2
    simp at h2
theorem stuff_not : ∀ (n : Nat) (l : List Bool), l.length ≤ n → ∀ c ∈ stuffL l, c ≠ 0 ∧ c ≠ 255
  | 0, l, h => by
    have : l = [] := List.eq_nil_of_length_eq_zero (by omega)
    subst this
    intro c hc
    cases hc
  | n + 1, l, h => by
    by_cases h0 : l = []
    · subst h0
      intro c hc
      cases hc
    · have hl : 0 < l.length := List.length_pos_iff.2 h0
      have ht := taken_pos l
      rw [stuff_cons l h0]
      intro c hc
      rcases List.mem_cons.1 hc with rfl | hc
      · exact group_not l
      · exact stuff_not n _ (by rw [List.length_drop]; omega) c hc
theorem put_not (b : List UInt8) : ∀ c ∈ putT b, c ≠ 0 ∧ c ≠ 255 := stuff_not _ _ (Nat.le_refl _)

/-! ### Rows -/
/-- The last bit, and how many of them are alike up to it. -/
def rowS (s : Bool × Nat) (x : Bool) : Bool × Nat := (x, if s.2 ≠ 0 ∧ x ≠ s.1 then 1 else s.2 + 1)
def rowB (s : Bool × Nat) (l : List Bool) : Bool × Nat := l.foldl rowS s
theorem row_byte : ∀ n, n < 256 → n ≠ 0 → n ≠ 255 → ∀ x : Bool, ∀ r, r < 8 → (∀ k, k ≤ 8 → (rowB (x, r) ((bits8 (UInt8.ofNat n)).take k)).2 ≤ 14) ∧ (rowB (x, r) (bits8 (UInt8.ofNat n))).2 < 8 := by decide +kernel
theorem row_append (s : Bool × Nat) (a b : List Bool) : rowB s (a ++ b) = rowB (rowB s a) b := by unfold rowB; rw [List.foldl_append]
theorem rows_fine : ∀ (s : List UInt8) (x : Bool) (r : Nat), r < 8 → (∀ c ∈ s, c ≠ 0 ∧ c ≠ 255) → ∀ k, (rowB (x, r) ((bitsL s).take k)).2 ≤ 14
  | [], x, r, hr, _, k => by
    simp [bitsL, rowB]
    omega
  | c :: s, x, r, hr, hs, k => by
    have hc := hs c List.mem_cons_self
    have hb := row_byte c.toNat c.toNat_lt (fun e => hc.1 (UInt8.toNat_inj.1 e)) (fun e => hc.2 (UInt8.toNat_inj.1 e)) x r hr
    rw [UInt8.ofNat_toNat] at hb
    have e : bitsL (c :: s) = bits8 c ++ bitsL s := rfl
    rw [e]
    rcases Nat.lt_or_ge k 9 with h | h
    · rw [List.take_append_of_le_length (by show k ≤ 8; omega)]
      exact hb.1 k (by omega)
    · rw [List.take_append, List.take_of_length_le (by show 8 ≤ k; omega), row_append]
      have h2 := rows_fine s (rowB (x, r) (bits8 c)).1 (rowB (x, r) (bits8 c)).2 hb.2 (fun d hd => hs d (List.mem_cons_of_mem _ hd)) (k - (bits8 c).length)
      exact h2
end Go.Proofs.Ytaknikbnajkccaa
