/-
  Layer 5 as plain functions: terms as pairs of a key and a text, a term's place, the terms with one put, its tag, a tag's term. No conditions but those typed.
-/
import Derived.Test.YtppdfldmbfddnaaWordNums
import Derived.Test.YtppdfldmbfddnaaWordPut
namespace Go.Proofs.Ytppdfldmbfddnaa
set_option linter.unusedVariables false
set_option linter.unusedSimpArgs false

abbrev Tm := List UInt8 × List UInt8
/-- Where x stands first; the length, if nowhere. -/
def idx (x : Tm) : List Tm → Nat
  | [] => 0
  | y :: l => if y = x then 0 else idx x l + 1
theorem idx_le (x : Tm) : ∀ l, idx x l ≤ l.length
  | [] => Nat.le_refl _
  | y :: l => by
    have := idx_le x l
    rw [idx, List.length_cons]
    split <;> omega
theorem idx_lt (x : Tm) : ∀ l, idx x l < l.length ↔ x ∈ l
  | [] => by simp [idx]
  | y :: l => by
    have := idx_lt x l
    rw [idx, List.length_cons, List.mem_cons]
    by_cases h : y = x
    · rw [if_pos h]
      exact ⟨fun _ => .inl h.symm, fun _ => by omega⟩
    · rw [if_neg h, Nat.add_lt_add_iff_right, this]
      exact ⟨.inr, fun k => k.resolve_left fun e => h e.symm⟩
theorem idx_get (x : Tm) : ∀ l (h : idx x l < l.length), l[idx x l] = x
  | [], h => by simp at h
  | y :: l, h => by
    by_cases e : y = x
    · simp [idx, e]
    · have h' : idx x l < l.length := by
        rw [idx, if_neg e] at h
        simpa using h
      have := idx_get x l h'
      simp [idx, e, this]
theorem idx_of (x : Tm) : ∀ (l : List Tm) (k : Nat), k ≤ l.length → (∀ j (h : j < k) (h' : j < l.length), l[j] ≠ x) → (k = l.length ∨ ∃ h : k < l.length, l[k] = x) → idx x l = k
  | [], k, hk, _, _ => by simp at hk; simp [idx, hk]
  | y :: l, 0, _, _, h => by
    rcases h with h | ⟨_, h⟩
    · simp at h
    · simp at h
      simp [idx, h]
  | y :: l, k + 1, hk, hj, h => by
    have hy : y ≠ x := hj 0 (by omega) (by simp)
    rw [idx, if_neg hy, idx_of x l k (by simpa using hk) (fun j hj' h' => hj (j + 1) (by omega) (by simpa using h')) (by
      rcases h with h | ⟨h, h'⟩
      · left
        simpa using h
      · right
        exact ⟨by simpa using h, by simpa using h'⟩)]
theorem idx_before (x : Tm) (l : List Tm) : ∀ j (h : j < l.length), j < idx x l → l[j] ≠ x := by
  induction l with
  | nil => intro j h; simp at h
  | cons y l ih =>
    intro j h hj
    by_cases e : y = x
    · rw [idx, if_pos e] at hj
      omega
    · rw [idx, if_neg e] at hj
      cases j with
      | zero => exact e
      | succ j => exact ih j (by simpa using h) (by omega)
theorem idx_none (x : Tm) (l : List Tm) (h : x ∉ l) : idx x l = l.length := by
  have h1 := idx_le x l
  have h2 : ¬ idx x l < l.length := fun k => h ((idx_lt x l).1 k)
  omega
theorem idx_app (x : Tm) (l m : List Tm) (h : x ∈ l) : idx x (l ++ m) = idx x l := by
  have hl := (idx_lt x l).2 h
  refine idx_of x _ _ (by rw [List.length_append]; omega) (fun j hj h' => ?_) (.inr ⟨by rw [List.length_append]; omega, ?_⟩)
  · rw [List.getElem_append_left (by omega)]
    exact idx_before x l j _ hj
  · rw [List.getElem_append_left hl]
    exact idx_get x l hl
theorem idx_end (x : Tm) (l : List Tm) (h : x ∉ l) : idx x (l ++ [x]) = l.length := by
  refine idx_of x _ _ (by simp) (fun j hj h' => ?_) (.inr ⟨by simp, by simp⟩)
  rw [List.getElem_append_left hj]
  exact fun e => h (e ▸ List.getElem_mem hj)
theorem idx_inj (x y : Tm) (l : List Tm) (hx : x ∈ l) (h : idx x l = idx y l) : x = y := by
  have h1 := (idx_lt x l).2 hx
  have h2 : idx y l < l.length := by omega
  have e1 := idx_get x l h1
  have e2 := idx_get y l h2
  rw [← e1, ← e2]
  simp only [h]

def plI (cs : List Tm) (x : Tm) : Int := if x ∈ cs then (idx x cs : Int) else -1
def putT (cs : List Tm) (x : Tm) : List Tm := if x ∈ cs then cs else cs ++ [x]
def tagT (cs : List Tm) (x : Tm) : List UInt8 := putL (idx x cs + 1)
def ofT (cs : List Tm) (tag : List UInt8) : Tm × Int :=
  if tag.length ≠ 8 then (([], []), 1) else if 1 ≤ valN tag ∧ valN tag ≤ cs.length then (cs.getD (valN tag - 1) ([], []), 0) else (([], []), 7)
def rightT (cs : List Tm) : Bool := decide cs.Nodup

theorem plI_in (cs : List Tm) (x : Tm) (h : x ∈ cs) : plI cs x = (idx x cs : Int) := if_pos h
theorem plI_out (cs : List Tm) (x : Tm) (h : x ∉ cs) : plI cs x = -1 := if_neg h
theorem putT_mem (cs : List Tm) (x : Tm) : x ∈ putT cs x := by
  unfold putT
  split
  · assumption
  · simp
theorem putT_pre (cs : List Tm) (x : Tm) : ∃ m, putT cs x = cs ++ m := by
  unfold putT
  split
  · exact ⟨[], by simp⟩
  · exact ⟨[x], rfl⟩
theorem putT_twice (cs : List Tm) (x : Tm) (h : x ∈ cs) : putT cs x = cs := if_pos h
theorem putT_length (cs : List Tm) (x : Tm) : cs.length ≤ (putT cs x).length ∧ (putT cs x).length ≤ cs.length + 1 := by
  unfold putT
  split <;> simp
theorem putT_right (cs : List Tm) (x : Tm) (h : rightT cs = true) : rightT (putT cs x) = true := by
  unfold rightT at *
  rw [decide_eq_true_eq] at *
  unfold putT
  split
  · exact h
  · next hx =>
    rw [List.nodup_append]
    exact ⟨h, by simp, fun a ha b hb => by simp at hb; subst hb; exact fun e => hx (e ▸ ha)⟩
/-- A tag is the one behind the put, too. -/
theorem tagT_put (cs : List Tm) (x : Tm) : tagT cs x = tagT (putT cs x) x := by
  unfold tagT putT
  split
  · rfl
  · next h => rw [idx_none x cs h, idx_end x cs h]
theorem tagT_app (cs m : List Tm) (x : Tm) (h : x ∈ cs) : tagT (cs ++ m) x = tagT cs x := by
  unfold tagT
  rw [idx_app x cs m h]
theorem putL_inj {v w : Nat} (hv : v < 18446744073709551616) (hw : w < 18446744073709551616) (h : putL v = putL w) : v = w := by
  rw [← valN_putL v hv, ← valN_putL w hw, h]
theorem tagT_inj (cs : List Tm) (x y : Tm) (hx : x ∈ cs) (hy : y ∈ cs) (hl : cs.length ≤ 1000000000) (h : tagT cs x = tagT cs y) : x = y := by
  have h1 := (idx_lt x cs).2 hx
  have h2 := (idx_lt y cs).2 hy
  exact idx_inj x y cs hx (by have := putL_inj (by omega) (by omega) h; omega)
theorem putL_valN (tag : List UInt8) (h : tag.length = 8) : putL (valN tag) = tag := by
  rw [putL_dig, dig_valN tag 8 h]
theorem valN_lt8' (tag : List UInt8) (h : tag.length = 8) : valN tag < 18446744073709551616 := by
  have := valN_lt tag
  rw [h] at this
  omega
theorem putL_eq (v : Nat) (tag : List UInt8) (h : tag.length = 8) (hv : v < 18446744073709551616) : putL v = tag ↔ valN tag = v := by
  constructor
  · intro e
    rw [← e, valN_putL v hv]
  · intro e
    rw [← e, putL_valN tag h]
theorem ofT_tag (cs : List Tm) (x : Tm) (h : x ∈ cs) (hl : cs.length ≤ 1000000000) : ofT cs (tagT cs x) = (x, 0) := by
  have h1 := (idx_lt x cs).2 h
  have e : valN (tagT cs x) = idx x cs + 1 := valN_putL _ (by omega)
  unfold ofT
  rw [if_neg (by simp [tagT, putL_length]), e, if_pos (by omega), Nat.add_sub_cancel, List.getD_eq_getElem?_getD, List.getElem?_eq_getElem h1, idx_get x cs h1]
  rfl
theorem right_iff (cs : List Tm) : rightT cs = true ↔ ∀ i (h : i < cs.length), idx cs[i] cs = i := by
  unfold rightT
  rw [decide_eq_true_eq, List.nodup_iff_pairwise_ne, List.pairwise_iff_getElem]
  constructor
  · intro h i hi
    have h1 : idx cs[i] cs < cs.length := (idx_lt _ _).2 (List.getElem_mem hi)
    have h2 := idx_get cs[i] cs h1
    rcases Nat.lt_trichotomy (idx cs[i] cs) i with hlt | heq | hgt
    · exact absurd h2 (h _ _ h1 hi hlt)
    · exact heq
    · exact absurd rfl (idx_before cs[i] cs i hi hgt)
  · intro h i j hi hj hij e
    have h1 := h i hi
    have h2 := h j hj
    have : idx cs[i] cs = idx cs[j] cs := by rw [e]
    omega
end Go.Proofs.Ytppdfldmbfddnaa
