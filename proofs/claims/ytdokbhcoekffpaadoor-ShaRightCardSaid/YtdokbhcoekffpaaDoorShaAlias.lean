/-
  Plain facts for the law ShaRight: a state that is copied word by word into a new hash, whatever memory the words lie in; the first and the last word of a hash's bytes. No conditions but those typed.
-/
import Derived.Test.YtdokbhcoekffpaaDoorShaGoes
namespace Go.Proofs.YtdokbhcoekffpaaDoor
open Go.RowKit
set_option linter.unusedSimpArgs false
set_option linter.unusedVariables false

theorem Row.range_part {w : World} {g : Nat} {t : TypeId} {l : List Value} (h : Row w g t l) (o : Nat) (m : List Value) (hm : (l.drop o).take m.length = m) : w.rangeAt g o m := fun j v hv => by
  have hj : j < m.length := (List.getElem?_eq_some_iff.1 hv).1
  have := congrArg (·[j]?) hm
  simp only [List.getElem?_take, List.getElem?_drop, hj, if_true] at this
  exact h.cell (this.trans hv)

/-- A hash of which k words are filled in. -/
def mixL (F : St) (k : Nat) : List Value := (F.toL.take k ++ List.replicate (8 - k) 0).map vW ++ [.slice none 0 0, .int .u64 0]
theorem mixL_zero (F : St) : mixL F 0 = zeroL := rfl
theorem mixL_eight (F : St) : mixL F 8 = [.int .u32 (F.a.toNat : Int), .int .u32 (F.b.toNat : Int), .int .u32 (F.c.toNat : Int), .int .u32 (F.d.toNat : Int), .int .u32 (F.e.toNat : Int), .int .u32 (F.f.toNat : Int), .int .u32 (F.g.toNat : Int), .int .u32 (F.h.toNat : Int), .slice none 0 0, .int .u64 0] := rfl
theorem mixL_length (F : St) (k : Nat) (hk : k ≤ 8) : (mixL F k).length = 10 := by
  have h8 : F.toL.length = 8 := rfl
  simp [mixL, h8]
  omega
theorem mixL_next (F : St) (k : Nat) (hk : k < 8) : (mixL F k).set k (vW (F.toL.getD k 0)) = mixL F (k + 1) := by
  have h8 : F.toL.length = 8 := rfl
  unfold mixL
  rw [List.set_append_left _ _ (by simp [h8]; omega), ← List.map_set]
  congr 2
  rw [List.set_append_right _ _ (by simp [h8]; omega), List.length_take, h8, show k - min k 8 = 0 by omega, show 8 - k = (8 - (k + 1)) + 1 by omega, List.replicate_succ, List.set_cons_zero, List.take_succ_eq_append_getElem (by omega : k < F.toL.length)]
  have e : F.toL.getD k 0 = F.toL[k] := by rw [List.getD_eq_getElem?_getD, List.getElem?_eq_getElem (by omega : k < F.toL.length)]; rfl
  rw [e, List.append_assoc]
  rfl
/-- Only block g has turned. -/
def SameBut (g : Nat) (w w' : World) : Prop := w'.heap.size = w.heap.size ∧ ∀ k, k ≠ g → w'.heap[k]? = w.heap[k]?
theorem SameBut.refl (g : Nat) (w : World) : SameBut g w w := ⟨rfl, fun _ _ => rfl⟩
theorem SameBut.setCell {g : Nat} {w w' : World} (h : SameBut g w w') (o : Nat) (v : Value) : SameBut g w (w'.setCell ⟨g, o, none⟩ v) :=
  ⟨by have := h.1; simp [World.setCell] at this ⊢; exact this, fun k hk => (Below.heap_setCell w' ⟨g, o, none⟩ v k hk).trans (h.2 k hk)⟩
/-- The words are read as they were, even if they lay in that very block: then they are all 0. -/
theorem rd_alias {F : St} {g k : Nat} {t : TypeId} {w w' : World} {A : Option Addr} (hr : Rd vW w A F.toL) (h0 : Row w g t zeroL) (hs : SameBut g w w') (h1 : Row w' g t (mixL F k)) (hk : k ≤ 8) : Rd vW w' A F.toL := fun hn => by
  obtain ⟨b, o, rfl, hc⟩ := hr hn
  refine ⟨b, o, rfl, fun i hi => ?_⟩
  by_cases hb : b = g
  · subst hb
    have h8 : F.toL.length = 8 := rfl
    have hz : ∀ j (hj : j < F.toL.length), zeroL[o + j]? = some (vW F.toL[j]) := fun j hj => (h0.cell? (o + j)).symm.trans (hc j hj)
    have ho : o = 0 := by
      have h7 := hz 7 (by omega)
      rcases Nat.lt_or_ge o 1 with h | h
      · omega
      · exfalso
        match o, h, h7 with
        | 1, _, h7 => simp [zeroL, vW] at h7
        | 2, _, h7 => simp [zeroL, vW] at h7
        | o + 3, _, h7 => simp [zeroL, vW] at h7
    subst ho
    have hall : F.toL = List.replicate 8 0 := by
      apply List.ext_getElem
      · simp [h8]
      · intro j hj hj'
        have := hz j hj
        rw [Nat.zero_add] at this
        have hj8 : j < 8 := by omega
        have e : zeroL[j]? = some (vW 0) := by
          match j, hj8 with
          | 0, _ => rfl
          | 1, _ => rfl
          | 2, _ => rfl
          | 3, _ => rfl
          | 4, _ => rfl
          | 5, _ => rfl
          | 6, _ => rfl
          | 7, _ => rfl
        rw [e] at this
        simp only [Option.some.injEq, vW, Value.int.injEq, true_and] at this
        rw [List.getElem_replicate]
        apply UInt32.toNat_inj.1
        omega
    rw [Nat.zero_add, h1.cell? i]
    have e2 : mixL F k = (List.replicate 8 (0 : UInt32)).map vW ++ [.slice none 0 0, .int .u64 0] := by
      unfold mixL
      congr 2
      rw [hall, List.take_replicate, List.replicate_append_replicate]
      congr 1
      omega
    rw [e2, List.getElem?_append_left (by simp; omega), List.getElem?_map, List.getElem?_replicate, if_pos (by omega)]
    have e3 : F.toL[i] = 0 := by
      have : F.toL[i]? = some 0 := by rw [hall, List.getElem?_replicate, if_pos (by omega)]
      rw [List.getElem?_eq_getElem hi] at this
      exact Option.some.inj this
    rw [e3]
    rfl
  · rw [World.cell?_of_block (w := w) (a := ⟨b, o + i, none⟩) (hs.2 b hb)]
    exact hc i hi

theorem bytesL_first (F : St) : ∃ h : 0 + 3 < (bytesL F.toL).length, valN [(bytesL F.toL)[0], (bytesL F.toL)[0 + 1], (bytesL F.toL)[0 + 2], (bytesL F.toL)[0 + 3]] = F.a.toNat := ⟨by rw [bytesL_length]; show 0 + 3 < 4 * 8; omega, valN_bytesW F.a⟩
theorem bytesL_last (F : St) : ∃ h : 28 + 3 < (bytesL F.toL).length, valN [(bytesL F.toL)[28], (bytesL F.toL)[28 + 1], (bytesL F.toL)[28 + 2], (bytesL F.toL)[28 + 3]] = F.h.toNat := ⟨by rw [bytesL_length]; show 28 + 3 < 4 * 8; omega, valN_bytesW F.h⟩
theorem number_first (F : St) (X : List UInt8) (HX : Hid (bytesL F.toL = X)) (A : Option Addr) (c : Nat) (w : World) (hr : Rd vB w A X) :
    Calls Tryd.prog 17 #[.slice A 32 c, .int .i64 0] w fun e w' => e = .returned (.int .u32 (F.a.toNat : Int)) ∧ Below w.heap.size w w' := by
  have e := HX.out
  subst e
  obtain ⟨h, hv⟩ := bytesL_first F
  have h32 : (bytesL F.toL).length = 32 := by rw [bytesL_length]; rfl
  have := number_law (bytesL F.toL) 0 A c w hr h (by omega)
  rw [hv, h32] at this
  exact this
theorem number_last (F : St) (X : List UInt8) (HX : Hid (bytesL F.toL = X)) (A : Option Addr) (c : Nat) (w : World) (hr : Rd vB w A X) :
    Calls Tryd.prog 17 #[.slice A 32 c, .int .i64 28] w fun e w' => e = .returned (.int .u32 (F.h.toNat : Int)) ∧ Below w.heap.size w w' := by
  have e := HX.out
  subst e
  obtain ⟨h, hv⟩ := bytesL_last F
  have h32 : (bytesL F.toL).length = 32 := by rw [bytesL_length]; rfl
  have := number_law (bytesL F.toL) 28 A c w hr h (by omega)
  rw [hv, h32] at this
  exact this

def CopyRel (F : St) (g : Nat) (w11 : World) (i : Value) (wr : World) : Prop :=
  ∃ k : Nat, k ≤ 8 ∧ i = .int .i64 (k : Int) ∧ Row wr g 27 (mixL F k) ∧ SameBut g w11 wr ∧ wr.os = w11.os ∧ wr.tape = w11.tape ∧ wr.output = w11.output

end Go.Proofs.YtdokbhcoekffpaaDoor
