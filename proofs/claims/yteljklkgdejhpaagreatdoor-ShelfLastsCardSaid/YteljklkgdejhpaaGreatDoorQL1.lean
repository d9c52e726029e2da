/-
  Plain facts on words of 32 bits, bytes and numbers (no program is named here): a word turned to the right, the eight bytes of a number, the number of bytes. No conditions but those typed.
-/
import Derived.Laws.BitsAllLaws
import Derived.Laws.BitsLemmas
import Derived.IntWalk
import Derived.RowKit
import Derived.Below
import Derived.Laws.OwnMore
import Derived.Deep.Draws
import Derived.Deep.AppendLies
import Derived.Laws.BytesArg
import Derived.Laws.Slices
import Derived.Laws.MakeOwn
import Derived.OwnWalk
set_option linter.unusedSimpArgs false
set_option linter.unusedVariables false
set_option maxRecDepth 100000
namespace Go.Proofs.YteljklkgdejhpaaGreatDoor
open Go.RowKit
def rotR (x : UInt32) (s : Nat) : UInt32 := ⟨x.toBitVec.rotateRight s⟩
theorem zo4 (x : BitVec 32) (s i : Nat) (hi : i < 32) : (x.rotateRight s).getLsbD i = x.getLsbD ((i + s) % 32) := by
 rw [BitVec.getLsbD_rotateRight]
 have h32 : s % 32 < 32 := Nat.mod_lt _ (by omega)
 by_cases h : i < 32 - s % 32
 ·have e : s % 32 + i = (i + s) % 32 := by omega
  simp [h, e]
 ·have e : i - (32 - s % 32) = (i + s) % 32 := by omega
  simp [h, e, hi]
theorem zka (x : UInt32) (s : Nat) : rotR x (s % 32) = rotR x s := by
 unfold rotR
 rw [BitVec.rotateRight_mod_eq_rotateRight]
theorem zl3 (x : UInt32) {s t : Nat} (h : s % 32 = t % 32) : rotR x s = rotR x t := by
 rw [← zka x s, ← zka x t, h]
theorem zc1 (x : UInt32) : x.toNat < 4294967296 := x.toNat_lt
theorem zkS (x : UInt32) (s : Nat) (hs : s < 32) :
  bits .or .u32 ((x.toNat : Int) * 2 ^ s % 4294967296) ((x.toNat : Int) / 2 ^ (32 - s)) = ((rotR x (32 - s)).toNat : Int) := by
 have hx := zc1 x
 have e1 : (x.toNat : Int) * 2 ^ s % 4294967296 = ((x.toNat * 2 ^ s % 4294967296 : Nat) : Int) := by
  rw [Int.natCast_emod, Int.natCast_mul, Int.natCast_pow]
  rfl
 have e2 : (x.toNat : Int) / 2 ^ (32 - s) = ((x.toNat / 2 ^ (32 - s) : Nat) : Int) := by
  rw [Int.natCast_ediv, Int.natCast_pow]
  rfl
 have hd : x.toNat / 2 ^ (32 - s) < 4294967296 := Nat.lt_of_le_of_lt (Nat.div_le_self _ _) hx
 rw [e1, e2, u32_or_nat _ _ (Nat.mod_lt _ (by omega)) hd]
 congr 1
 have hb : (rotR x (32 - s)).toNat = (x.toBitVec <<< s ||| x.toBitVec >>> (32 - s)).toNat := by
  show (x.toBitVec.rotateRight (32 - s)).toNat = _
  congr 1
  apply BitVec.eq_of_getLsbD_eq
  intro i hi
  rw [zo4 _ _ _ hi, BitVec.getLsbD_or, BitVec.getLsbD_shiftLeft, BitVec.getLsbD_ushiftRight]
  by_cases h : i < s
  ·have e : (i + (32 - s)) % 32 = 32 - s + i := by omega
   simp [hi, h, e]
  ·have e : (i + (32 - s)) % 32 = i - s := by omega
   have e' : x.toBitVec.getLsbD (32 - s + i) = false := BitVec.getLsbD_of_ge _ _ (by omega)
   simp [hi, h, e, e']
 rw [hb, BitVec.toNat_or, BitVec.toNat_shiftLeft, BitVec.toNat_ushiftRight, Nat.shiftLeft_eq, Nat.shiftRight_eq_div_pow]
 rfl
theorem zqb (n : Int) : bits .and .u64 (IntKind.u64.wrap (wrap64 (-n))) 31 = (((-n) % 32).toNat : Int) := by
 have hw : IntKind.u64.wrap (wrap64 (-n)) = (((-n) % 18446744073709551616).toNat : Int) := by
  rw [IntKind.wrap_u64]
  unfold wrap64
  omega
 rw [hw, show (31 : Int) = ((31 : Nat) : Int) from rfl, u64_and_nat _ _ (by omega) (by omega)]
 have := Nat.and_two_pow_sub_one_eq_mod ((-n) % 18446744073709551616).toNat 5
 simp only [Nat.reducePow, Nat.reduceSub] at this
 rw [this]
 omega
def valN (l : List UInt8) : Nat := l.foldl (fun v c => v * 256 + c.toNat) 0
theorem zfO (l : List UInt8) (c : UInt8) : valN (l ++ [c]) = valN l * 256 + c.toNat := by
 unfold valN
 rw [List.foldl_append]
 rfl
theorem zl4 (l : List UInt8) (k : Nat) (h : k < l.length) : valN (l.take (k + 1)) = valN (l.take k) * 256 + l[k].toNat := by
 rw [List.take_succ_eq_append_getElem h, zfO]
theorem zl5 (a c : Nat) (hc : c < 256) :
  bits .or .u64 (IntKind.u64.wrap ((a : Int) % 18446744073709551616 * 256)) (c : Int) = (((a * 256 + c) % 18446744073709551616 : Nat) : Int) := by
 have e : IntKind.u64.wrap ((a : Int) % 18446744073709551616 * 256) = ((2 ^ 8 * (a % 72057594037927936) : Nat) : Int) := by
  rw [IntKind.wrap_u64]
  omega
 rw [e, u64_or_nat _ _ (by omega) (by omega), ← Nat.two_pow_add_eq_or_of_lt (by omega)]
 congr 1
 omega
theorem zhx (l : List UInt8) : valN l < 256 ^ l.length := by
 suffices h : ∀ (l : List UInt8) (v : Nat), l.foldl (fun v c => v * 256 + c.toNat) v < (v + 1) * 256 ^ l.length by
  have := h l 0
  unfold valN
  omega
 intro l
 induction l with
 | nil => intro v; simp
 | cons c l ih =>
  intro v
  have h := ih (v * 256 + c.toNat)
  have hc : c.toNat < 256 := c.toNat_lt
  refine Nat.lt_of_lt_of_le h ?_
  rw [List.length_cons, Nat.pow_succ, Nat.mul_comm (256 ^ l.length) 256, ← Nat.mul_assoc]
  exact Nat.mul_le_mul_right _ (by omega)
theorem zcD (l : List UInt8) (h : l.length ≤ 8) : valN l < 18446744073709551616 :=
 Nat.lt_of_lt_of_le (zhx l) (Nat.pow_le_pow_right (by omega) h)
def getR (l : List UInt8) : Nat × Int := if l.length = 8 then (valN l, 0) else (0, 1)
def putL (v : Nat) : List UInt8 := (List.range 8).map fun i => UInt8.ofNat (v / 256 ^ (7 - i))
def zbw : List UInt8 → List UInt32
 | a :: b :: c :: d :: r => UInt32.ofNat (valN [a, b, c, d]) :: zbw r
 | _ => []
def zeB (x : UInt32) : List UInt8 := [UInt8.ofNat (x.toNat / 16777216), UInt8.ofNat (x.toNat / 65536), UInt8.ofNat (x.toNat / 256), UInt8.ofNat x.toNat]
def zbx (l : List UInt32) : List UInt8 := l.flatMap zeB
theorem zc2 (l : List UInt8) (h : l.length < 4) : zbw l = [] := by
 match l, h with
 | [], _ => rfl
 | [_], _ => rfl
 | [_, _], _ => rfl
 | [_, _, _], _ => rfl
 | _ :: _ :: _ :: _ :: _, h => simp at h; omega
theorem zkb {k k' : IntKind} {a b a' b' : Int} (h : a = b) (h' : a' = b') : Ending.returned (.tuple #[.int k a, .int k' a']) = .returned (.tuple #[.int k b, .int k' b']) := by rw [h, h']
theorem zl6 {k : IntKind} {a b : Int} (h : a = b) : Ending.returned (.int k a) = .returned (.int k b) := by rw [h]
end Go.Proofs.YteljklkgdejhpaaGreatDoor
namespace Go.Proofs.YteljklkgdejhpaaGreatDoor
def dig : Nat → Nat → List UInt8
 | 0, _ => []
 | n + 1, v => dig n (v / 256) ++ [UInt8.ofNat v]
theorem zch (v : Nat) : putL v = dig 8 v := by
 simp [putL, dig, List.range, List.range.loop, Nat.div_div_eq_div_mul]
theorem zd5 (n v : Nat) : (dig n v).length = n := by
 induction n generalizing v with
 | zero => rfl
 | succ n ih => simp [dig, ih]
theorem znZ (n v : Nat) : valN (dig n v) = v % 256 ^ n := by
 induction n generalizing v with
 | zero => simp [dig, valN, Nat.mod_one]
 | succ n ih =>
  rw [dig, zfO, ih, UInt8.toNat_ofNat', show 256 ^ (n + 1) = 256 * 256 ^ n by rw [Nat.pow_succ, Nat.mul_comm], Nat.mod_mul]
  omega
theorem zeC (l : List UInt8) (n : Nat) (h : l.length = n) : dig n (valN l) = l := by
 induction n generalizing l with
 | zero => rw [List.eq_nil_of_length_eq_zero h]; rfl
 | succ n ih =>
  rcases List.eq_nil_or_concat l with rfl | ⟨l', c, rfl⟩
  ·simp at h
  ·simp only [List.concat_eq_append] at h ⊢
   have hc : c.toNat < 256 := c.toNat_lt
   rw [zfO, dig, show (valN l' * 256 + c.toNat) / 256 = valN l' by omega, ih l' (by simpa using h)]
   congr 2
   apply UInt8.toNat_inj.1
   rw [UInt8.toNat_ofNat']
   omega
theorem zdf (v : Nat) (hv : v < 18446744073709551616) : valN (putL v) = v := by
 rw [zch, znZ]
 exact Nat.mod_eq_of_lt hv
theorem zjd (a b c d : UInt8) : zeB (UInt32.ofNat (valN [a, b, c, d])) = [a, b, c, d] := by
 have ha : a.toNat < 256 := a.toNat_lt
 have hb : b.toNat < 256 := b.toNat_lt
 have hc : c.toNat < 256 := c.toNat_lt
 have hd : d.toNat < 256 := d.toNat_lt
 have hv : valN [a, b, c, d] = ((a.toNat * 256 + b.toNat) * 256 + c.toNat) * 256 + d.toNat := by simp [valN]
 have ht : (UInt32.ofNat (valN [a, b, c, d])).toNat = ((a.toNat * 256 + b.toNat) * 256 + c.toNat) * 256 + d.toNat := by rw [UInt32.toNat_ofNat', hv]; omega
 unfold zeB
 rw [ht]
 congr 1
 ·apply UInt8.toNat_inj.1; rw [UInt8.toNat_ofNat']; omega
 congr 1
 ·apply UInt8.toNat_inj.1; rw [UInt8.toNat_ofNat']; omega
 congr 1
 ·apply UInt8.toNat_inj.1; rw [UInt8.toNat_ofNat']; omega
 congr 1
 ·apply UInt8.toNat_inj.1; rw [UInt8.toNat_ofNat']; omega
theorem zeD : ∀ (l : List UInt8), zbx (zbw l) = l.take (l.length / 4 * 4)
 | [] => rfl
 | [_] => by rw [zc2 _ (by simp)]; simp [zbx]
 | [_, _] => by rw [zc2 _ (by simp)]; simp [zbx]
 | [_, _, _] => by rw [zc2 _ (by simp)]; simp [zbx]
 | a :: b :: c :: d :: l => by
  have e : zbx (zbw (a :: b :: c :: d :: l)) = zeB (UInt32.ofNat (valN [a, b, c, d])) ++ zbx (zbw l) := by simp [zbw, zbx]
  rw [e, zjd, zeD l]
  have e2 : (a :: b :: c :: d :: l).length / 4 * 4 = l.length / 4 * 4 + 4 := by simp; omega
  rw [e2]
  simp [List.take_succ_cons]
abbrev Gn := Nat × Nat
def ltG (a b : Gn) : Bool := decide (a.1 < b.1 ∨ (a.1 = b.1 ∧ a.2 < b.2))
def zek : List Gn → Bool
 | a :: b :: l => ltG a b && zek (b :: l)
 | _ => true
def zb4 (l : List Gn) : Bool := zek l && decide (l.length ≤ 64)
theorem zl7 {a b : Gn} : ltG a b = true ↔ a.1 < b.1 ∨ (a.1 = b.1 ∧ a.2 < b.2) := by unfold ltG; exact decide_eq_true_iff
theorem zl8 {a b c : Gn} (h : ltG a b = true) (k : ltG b c = true) : ltG a c = true := by
 rw [zl7] at *
 omega
theorem zh6 : ∀ l : List Gn, zek l = true ↔ l.Pairwise (fun a b => ltG a b = true)
 | [] => by simp [zek]
 | [a] => by simp [zek]
 | a :: b :: l => by
  have ih := zh6 (b :: l)
  unfold zek
  rw [Bool.and_eq_true, ih]
  constructor
  ·rintro ⟨h1, h2⟩
   refine List.pairwise_cons.2 ⟨fun x hx => ?_, h2⟩
   rcases List.mem_cons.1 hx with rfl | hx
   ·exact h1
   ·exact zl8 h1 ((List.pairwise_cons.1 h2).1 x hx)
  ·intro h
   obtain ⟨h1, h2⟩ := List.pairwise_cons.1 h
   exact ⟨h1 b (List.mem_cons_self ..), h2⟩
abbrev Srt (l : List Gn) : Prop := l.Pairwise (fun a b => ltG a b = true)
theorem zcO {l : List Gn} : zb4 l = true ↔ Srt l ∧ l.length ≤ 64 := by
 unfold zb4
 rw [Bool.and_eq_true, zh6, decide_eq_true_iff]
def zck (l : List Gn) : List UInt8 := l.flatMap (fun g => putL g.1 ++ putL g.2)
def zbe (l : List Gn) : List UInt8 := UInt8.ofNat l.length :: zck l
def zcP : Nat → List UInt8 → List Gn
 | 0, _ => []
 | n + 1, b => (valN (b.take 8), valN ((b.drop 8).take 8)) :: zcP n (b.drop 16)
def cntG (b : List UInt8) : Nat := (b.getD 0 0).toNat
def zaO (b : List UInt8) : List Gn × Nat × Int :=
 if b.length = 0 then ([], 0, 2) else if 64 < cntG b then ([], 0, 3) else if b.length < 1 + 16 * cntG b then ([], 0, 2)
 else if zb4 (zcP (cntG b) (b.drop 1)) = true then (zcP (cntG b) (b.drop 1), 1 + 16 * cntG b, 0) else ([], 0, 3)
def fitG (l : List Gn) : Prop := ∀ g ∈ l, g.1 < 18446744073709551616 ∧ g.2 < 18446744073709551616
theorem zfP (l : List Gn) : (zck l).length = 16 * l.length := by
 induction l with
 | nil => rfl
 | cons a l ih =>
  unfold zck at *
  rw [List.flatMap_cons, List.length_append, ih, List.length_append, zch, zch, zd5, zd5, List.length_cons]
  omega
theorem zbV (l : List Gn) : (zbe l).length = 1 + 16 * l.length := by
 unfold zbe
 rw [List.length_cons, zfP]
 omega
theorem zh7 : ∀ (l : List Gn) (r : List UInt8), fitG l → zcP l.length (zck l ++ r) = l
 | [], _, _ => rfl
 | a :: l, r, h => by
  have l8 : ∀ v, (putL v).length = 8 := fun v => by rw [zch, zd5]
  have ha := h a (List.mem_cons_self ..)
  have e : zck (a :: l) ++ r = putL a.1 ++ (putL a.2 ++ (zck l ++ r)) := by
   unfold zck
   rw [List.flatMap_cons]
   simp only [List.append_assoc]
  have d8 : (zck (a :: l) ++ r).drop 8 = putL a.2 ++ (zck l ++ r) := by rw [e]; exact List.drop_left' (l8 _)
  have d16 : (zck (a :: l) ++ r).drop 16 = zck l ++ r := by
   have : (zck (a :: l) ++ r).drop 16 = ((zck (a :: l) ++ r).drop 8).drop 8 := by rw [List.drop_drop]
   rw [this, d8]
   exact List.drop_left' (l8 _)
  have t8 : (zck (a :: l) ++ r).take 8 = putL a.1 := by rw [e]; exact List.take_left' (l8 _)
  show (valN ((zck (a :: l) ++ r).take 8), valN (((zck (a :: l) ++ r).drop 8).take 8)) :: zcP l.length ((zck (a :: l) ++ r).drop 16) = a :: l
  rw [d16, d8, t8, List.take_left' (l8 _), zdf _ ha.1, zdf _ ha.2, zh7 l r (fun g hg => h g (List.mem_cons_of_mem _ hg))]
theorem zeE : ∀ (n : Nat) (b : List UInt8), 16 * n ≤ b.length → zck (zcP n b) = b.take (16 * n) ∧ (zcP n b).length = n ∧ fitG (zcP n b)
 | 0, b, _ => ⟨by simp [zcP, zck], rfl, fun g hg => by cases hg⟩
 | n + 1, b, h => by
  obtain ⟨i1, i2, i3⟩ := zeE n (b.drop 16) (by rw [List.length_drop]; omega)
  have l1 : (b.take 8).length = 8 := by rw [List.length_take]; omega
  have l2 : ((b.drop 8).take 8).length = 8 := by rw [List.length_take, List.length_drop]; omega
  refine ⟨?_, ?_, ?_⟩
  ·have e : zck (zcP (n + 1) b) = putL (valN (b.take 8)) ++ putL (valN ((b.drop 8).take 8)) ++ zck (zcP n (b.drop 16)) := by
    show ((valN (b.take 8), valN ((b.drop 8).take 8)) :: zcP n (b.drop 16)).flatMap (fun g => putL g.1 ++ putL g.2) = _
    rw [List.flatMap_cons]
    rfl
   rw [e, i1, zch, zch, zeC _ 8 l1, zeC _ 8 l2]
   have e1 : b.take (16 * (n + 1)) = b.take 8 ++ ((b.drop 8).take 8 ++ (b.drop 16).take (16 * n)) := by
    rw [show 16 * (n + 1) = 8 + (8 + 16 * n) by omega, List.take_add, List.take_add, List.drop_drop]
   rw [e1, List.append_assoc]
  ·unfold zcP
   rw [List.length_cons, i2]
  ·intro g hg
   unfold zcP at hg
   rcases List.mem_cons.1 hg with rfl | hg
   ·have h1 := zcD (b.take 8) (by omega)
    have h2 := zcD ((b.drop 8).take 8) (by omega)
    exact ⟨h1, h2⟩
   ·exact i3 g hg
theorem zl9 (l : List Gn) (r : List UInt8) (h : l.length ≤ 64) : cntG (zbe l ++ r) = l.length := by
 unfold cntG zbe
 show (UInt8.ofNat l.length).toNat = _
 rw [UInt8.toNat_ofNat']
 omega
theorem zje {l : List Gn} (r : List UInt8) (h : zb4 l = true) (hf : fitG l) : zaO (zbe l ++ r) = (l, 1 + 16 * l.length, 0) := by
 have hl := (zcO.1 h).2
 have hc := zl9 l r hl
 have hlen : (zbe l ++ r).length = 1 + 16 * l.length + r.length := by rw [List.length_append, zbV]
 have hd : (zbe l ++ r).drop 1 = zck l ++ r := rfl
 unfold zaO
 rw [hc, hlen, hd, zh7 l r hf, if_neg (by omega), if_neg (by omega), if_neg (by omega), if_pos h]
theorem zgS {b : List UInt8} {l : List Gn} {n : Nat} (h : zaO b = (l, n, 0)) : zb4 l = true ∧ n = 1 + 16 * l.length ∧ n ≤ b.length ∧ zbe l = b.take n ∧ fitG l := by
 unfold zaO at h
 split at h
 ·simp at h
 ·rename_i h0
  split at h
  ·simp at h
  ·rename_i h1
   split at h
   ·simp at h
   ·rename_i h2
    split at h
    ·rename_i h3
     obtain ⟨i1, i2, i3⟩ := zeE (cntG b) (b.drop 1) (by rw [List.length_drop]; omega)
     injection h with e1 h
     injection h with e2 _
     subst e1
     subst e2
     refine ⟨h3, by rw [i2], by omega, ?_, i3⟩
     unfold zbe
     rw [i1, i2]
     cases b with
     | nil => simp at h0
     | cons x b =>
      have e : cntG (x :: b) = x.toNat := rfl
      rw [e, UInt8.ofNat_toNat, show 1 + 16 * x.toNat = 16 * x.toNat + 1 by omega, List.take_succ_cons]
      rfl
    ·simp at h
abbrev En := Nat × Nat × List UInt8
def zc3 (x : En) : Prop := 1 ≤ x.2.2.length ∧ x.2.2.length ≤ 32
instance (x : En) : Decidable (zc3 x) := by unfold zc3; infer_instance
def okE : List En → Bool
 | [] => true
 | [a] => decide (zc3 a)
 | a :: b :: l => decide (zc3 a) && (decide (a.1 < b.1) && okE (b :: l))
def zaJ (es : List En) (gs : List Gn) : Bool := decide (es.length ≤ 64) && (zb4 gs && okE es)
def oneE (x : En) : List UInt8 := putL x.1 ++ (putL x.2.1 ++ (UInt8.ofNat x.2.2.length :: x.2.2))
def zcl (es : List En) : List UInt8 := es.flatMap oneE
def zbp (v : Nat) (es : List En) (gs : List Gn) : List UInt8 := 66 :: (putL v ++ (UInt8.ofNat es.length :: (zcl es ++ zbe gs)))
def fitE (es : List En) : Prop := ∀ x ∈ es, x.1 < 18446744073709551616 ∧ x.2.1 < 18446744073709551616
def entE (b : List UInt8) : En := (valN (b.take 8), valN ((b.drop 8).take 8), (b.drop 17).take (b.getD 16 0).toNat)
def zaR : Nat → List UInt8 → List En × List UInt8 × Int
 | 0, b => ([], b, 0)
 | n + 1, b =>
  if b.length < 17 then ([], [], 2) else if (b.getD 16 0).toNat = 0 ∨ 32 < (b.getD 16 0).toNat then ([], [], 3) else if b.length < 17 + (b.getD 16 0).toNat then ([], [], 2)
  else if (zaR n (b.drop (17 + (b.getD 16 0).toNat))).2.2 = 0 then (entE b :: (zaR n (b.drop (17 + (b.getD 16 0).toNat))).1, (zaR n (b.drop (17 + (b.getD 16 0).toNat))).2.1, 0) else ([], [], (zaR n (b.drop (17 + (b.getD 16 0).toNat))).2.2)
abbrev ResB := Nat × List En × List Gn × Nat × Int
def badB (k : Int) : ResB := (0, [], [], 0, k)
def zaE (b : List UInt8) : ResB :=
 if b.length = 0 then badB 2 else if b.getD 0 0 ≠ 66 then badB 3 else if b.length < 10 then badB 2 else if 64 < (b.getD 9 0).toNat then badB 3
 else if (zaR (b.getD 9 0).toNat (b.drop 10)).2.2 ≠ 0 then badB (zaR (b.getD 9 0).toNat (b.drop 10)).2.2
 else if (zaO (zaR (b.getD 9 0).toNat (b.drop 10)).2.1).2.2 ≠ 0 then badB (zaO (zaR (b.getD 9 0).toNat (b.drop 10)).2.1).2.2
 else if zaJ (zaR (b.getD 9 0).toNat (b.drop 10)).1 (zaO (zaR (b.getD 9 0).toNat (b.drop 10)).2.1).1 = true then
  (valN ((b.drop 1).take 8), (zaR (b.getD 9 0).toNat (b.drop 10)).1, (zaO (zaR (b.getD 9 0).toNat (b.drop 10)).2.1).1, b.length - (zaR (b.getD 9 0).toNat (b.drop 10)).2.1.length + (zaO (zaR (b.getD 9 0).toNat (b.drop 10)).2.1).2.1, 0)
 else badB 3
theorem zc9 (v : Nat) : (putL v).length = 8 := by rw [zch, zd5]
theorem zeq (x : En) : (oneE x).length = 17 + x.2.2.length := by
 unfold oneE
 rw [List.length_append, List.length_append, List.length_cons, zc9, zc9]
 omega
theorem zfQ : ∀ {es : List En}, okE es = true → ∀ x ∈ es, zc3 x
 | [], _, x, hx => by cases hx
 | [a], h, x, hx => by
  rw [List.mem_singleton.1 hx]
  unfold okE at h
  exact of_decide_eq_true h
 | a :: b :: l, h, x, hx => by
  unfold okE at h
  simp only [Bool.and_eq_true, decide_eq_true_eq] at h
  rcases List.mem_cons.1 hx with rfl | hx
  ·exact h.1
  ·exact zfQ h.2.2 x hx
theorem zhy {es : List En} {gs : List Gn} : zaJ es gs = true ↔ es.length ≤ 64 ∧ zb4 gs = true ∧ okE es = true := by
 unfold zaJ
 rw [Bool.and_eq_true, Bool.and_eq_true, decide_eq_true_iff]
theorem zma (x : En) (r : List UInt8) (h : zc3 x) (h1 : x.1 < 18446744073709551616) (h2 : x.2.1 < 18446744073709551616) : ((oneE x ++ r).getD 16 0).toNat = x.2.2.length ∧ entE (oneE x ++ r) = x ∧ (oneE x ++ r).drop (17 + x.2.2.length) = r := by
 have e : oneE x ++ r = putL x.1 ++ (putL x.2.1 ++ (UInt8.ofNat x.2.2.length :: (x.2.2 ++ r))) := by
  unfold oneE
  simp only [List.append_assoc, List.cons_append]
 have d8 : (oneE x ++ r).drop 8 = putL x.2.1 ++ (UInt8.ofNat x.2.2.length :: (x.2.2 ++ r)) := by rw [e]; exact List.drop_left' (zc9 _)
 have d16 : (oneE x ++ r).drop 16 = UInt8.ofNat x.2.2.length :: (x.2.2 ++ r) := by
  have : (oneE x ++ r).drop 16 = ((oneE x ++ r).drop 8).drop 8 := by rw [List.drop_drop]
  rw [this, d8]
  exact List.drop_left' (zc9 _)
 have d17 : (oneE x ++ r).drop 17 = x.2.2 ++ r := by
  have : (oneE x ++ r).drop 17 = ((oneE x ++ r).drop 16).drop 1 := by rw [List.drop_drop]
  rw [this, d16]
  rfl
 have g16 : ((oneE x ++ r).getD 16 0).toNat = x.2.2.length := by
  have : (oneE x ++ r).getD 16 0 = ((oneE x ++ r).drop 16).getD 0 0 := by
   rw [List.getD_eq_getElem?_getD, List.getD_eq_getElem?_getD, List.getElem?_drop]
  rw [this, d16]
  show (UInt8.ofNat x.2.2.length).toNat = _
  rw [UInt8.toNat_ofNat']
  have := h.2
  omega
 refine ⟨g16, ?_, ?_⟩
 ·unfold entE
  rw [g16, d8, d17, e, List.take_left' (zc9 _), List.take_left' (zc9 _), List.take_left' rfl, zdf _ h1, zdf _ h2]
 ·rw [← List.drop_drop, d17]
  exact List.drop_left' rfl
theorem zd6 (a : En) (l : List En) : zcl (a :: l) = oneE a ++ zcl l := List.flatMap_cons ..
theorem zfR : ∀ (es : List En) (r : List UInt8), (∀ x ∈ es, zc3 x) → fitE es → zaR es.length (zcl es ++ r) = (es, r, 0)
 | [], _, _, _ => rfl
 | a :: l, r, hs, hf => by
  have ha := hs a (List.mem_cons_self ..)
  obtain ⟨f1, f2⟩ := hf a (List.mem_cons_self ..)
  have ih := zfR l r (fun x hx => hs x (List.mem_cons_of_mem _ hx)) (fun x hx => hf x (List.mem_cons_of_mem _ hx))
  have e : zcl (a :: l) ++ r = oneE a ++ (zcl l ++ r) := by rw [zd6, List.append_assoc]
  obtain ⟨p1, p2, p3⟩ := zma a (zcl l ++ r) ha f1 f2
  have hl : (oneE a ++ (zcl l ++ r)).length = 17 + a.2.2.length + (zcl l ++ r).length := by rw [List.length_append, zeq]
  obtain ⟨s1, s2⟩ := ha
  rw [e]
  show zaR (l.length + 1) _ = _
  unfold zaR
  rw [p1, p3, ih, hl, if_neg (by omega), if_neg (by omega), if_neg (by omega), if_pos rfl, p2]
theorem zfS : ∀ (n : Nat) (b : List UInt8) (es : List En) (r : List UInt8), zaR n b = (es, r, 0) → b = zcl es ++ r ∧ es.length = n ∧ fitE es
 | 0, b, es, r, h => by
  unfold zaR at h
  injection h with h1 h2
  injection h2 with h2 _
  subst h1
  subst h2
  exact ⟨rfl, rfl, fun x hx => by cases hx⟩
 | n + 1, b, es, r, h => by
  unfold zaR at h
  split at h
  ·simp at h
  ·rename_i h17
   split at h
   ·simp at h
   ·rename_i hm
    split at h
    ·simp at h
    ·rename_i hl
     split at h
     ·rename_i h0
      obtain ⟨q1, q2, q3, hq⟩ : ∃ q1 q2 q3, zaR n (b.drop (17 + (b.getD 16 0).toNat)) = (q1, q2, q3) := ⟨_, _, _, rfl⟩
      rw [hq] at h h0
      dsimp only at h h0
      subst h0
      obtain ⟨i1, i2, i3⟩ := zfS n _ _ _ hq
      injection h with e1 h
      injection h with e2 _
      subst e1
      subst e2
      have hlt : (b.getD 16 0).toNat < 256 := UInt8.toNat_lt _
      have l1 : (b.take 8).length = 8 := by rw [List.length_take]; omega
      have l2 : ((b.drop 8).take 8).length = 8 := by rw [List.length_take, List.length_drop]; omega
      have l3 : ((b.drop 17).take (b.getD 16 0).toNat).length = (b.getD 16 0).toNat := by rw [List.length_take, List.length_drop]; omega
      refine ⟨?_, by rw [List.length_cons, i2], fun x hx => ?_⟩
      ·have eo : oneE (entE b) = b.take (17 + (b.getD 16 0).toNat) := by
        unfold oneE entE
        dsimp only
        rw [zch, zch, zeC _ 8 l1, zeC _ 8 l2, l3, UInt8.ofNat_toNat, show 17 + (b.getD 16 0).toNat = 8 + (8 + (1 + (b.getD 16 0).toNat)) by omega, List.take_add, List.take_add, List.drop_drop]
        congr 2
        have e16 : b.drop (8 + 8) = b.getD 16 0 :: b.drop 17 := by
         rw [List.drop_eq_getElem_cons (by omega), List.getD_eq_getElem?_getD, List.getElem?_eq_getElem (by omega)]
         rfl
        rw [e16, show 1 + (b.getD 16 0).toNat = (b.getD 16 0).toNat + 1 by omega, List.take_succ_cons]
       rw [zd6, eo, List.append_assoc, ← i1, List.take_append_drop]
      ·rcases List.mem_cons.1 hx with rfl | hx
       ·exact ⟨zcD _ (by omega), zcD _ (by omega)⟩
       ·exact i3 x hx
     ·rename_i h0
      injection h with _ h
      injection h with _ h
      exact absurd h h0
theorem zdr (v : Nat) (es : List En) (gs : List Gn) : (zbp v es gs).length = 10 + (zcl es).length + (zbe gs).length := by
 unfold zbp
 rw [List.length_cons, List.length_append, List.length_cons, List.length_append, zc9]
 omega
theorem zmb (v : Nat) (es : List En) (gs : List Gn) (r : List UInt8) (h : es.length ≤ 64) : (zbp v es gs ++ r).getD 0 0 = 66 ∧ ((zbp v es gs ++ r).getD 9 0).toNat = es.length ∧ ((zbp v es gs ++ r).drop 1).take 8 = putL v ∧ (zbp v es gs ++ r).drop 10 = zcl es ++ (zbe gs ++ r) := by
 have e1 : (zbp v es gs ++ r).drop 1 = putL v ++ (UInt8.ofNat es.length :: (zcl es ++ (zbe gs ++ r))) := by
  unfold zbp
  simp only [List.cons_append, List.append_assoc, List.drop_succ_cons, List.drop_zero]
 have e9 : (zbp v es gs ++ r).drop 9 = UInt8.ofNat es.length :: (zcl es ++ (zbe gs ++ r)) := by
  have : (zbp v es gs ++ r).drop 9 = ((zbp v es gs ++ r).drop 1).drop 8 := by rw [List.drop_drop]
  rw [this, e1]
  exact List.drop_left' (zc9 _)
 refine ⟨rfl, ?_, ?_, ?_⟩
 ·have : (zbp v es gs ++ r).getD 9 0 = ((zbp v es gs ++ r).drop 9).getD 0 0 := by
   rw [List.getD_eq_getElem?_getD, List.getD_eq_getElem?_getD, List.getElem?_drop]
  rw [this, e9]
  show (UInt8.ofNat es.length).toNat = _
  rw [UInt8.toNat_ofNat']
  omega
 ·rw [e1]
  exact List.take_left' (zc9 _)
 ·have : (zbp v es gs ++ r).drop 10 = ((zbp v es gs ++ r).drop 9).drop 1 := by rw [List.drop_drop]
  rw [this, e9]
  rfl
theorem zn0 {v : Nat} {es : List En} {gs : List Gn} (r : List UInt8) (h : zaJ es gs = true) (hv : v < 18446744073709551616) (hf : fitE es) (hg : fitG gs) : zaE (zbp v es gs ++ r) = (v, es, gs, (zbp v es gs).length, 0) := by
 obtain ⟨h1, h2, h3⟩ := zhy.1 h
 obtain ⟨p0, p9, p1, p10⟩ := zmb v es gs r h1
 have hb := zbV gs
 have hlen : (zbp v es gs ++ r).length = 10 + (zcl es).length + (zbe gs).length + r.length := by rw [List.length_append, zdr]
 have hE := zfR es (zbe gs ++ r) (zfQ h3) hf
 have hG := zje r h2 hg
 unfold zaE
 rw [p9, p10, hE]
 dsimp only
 rw [hG]
 dsimp only
 rw [if_neg (by omega), p0, if_neg (by simp), if_neg (by omega), if_neg (by omega), if_neg (by simp), if_neg (by simp), if_pos h, p1, zdf v hv, hlen, List.length_append, zdr, hb]
 congr 4
 omega
theorem zkc {b : List UInt8} {v n : Nat} {es : List En} {gs : List Gn} (h : zaE b = (v, es, gs, n, 0)) : zaJ es gs = true ∧ n ≤ b.length ∧ zbp v es gs = b.take n ∧ v < 18446744073709551616 ∧ fitE es ∧ fitG gs := by
 unfold zaE at h
 split at h
 ·simp [badB] at h
 ·rename_i h0
  split at h
  ·simp [badB] at h
  ·rename_i h66
   split at h
   ·simp [badB] at h
   ·rename_i h10
    split at h
    ·simp [badB] at h
    ·rename_i h64
     obtain ⟨q1, q2, q3, hq⟩ : ∃ q1 q2 q3, zaR (b.getD 9 0).toNat (b.drop 10) = (q1, q2, q3) := ⟨_, _, _, rfl⟩
     rw [hq] at h
     dsimp only at h
     split at h
     ·rename_i hk
      unfold badB at h
      simp only [Prod.mk.injEq] at h
      exact absurd h.2.2.2.2 hk
     ·rename_i hk
      obtain rfl : q3 = 0 := Classical.byContradiction hk
      obtain ⟨g1, g2, g3, hg⟩ : ∃ g1 g2 g3, zaO q2 = (g1, g2, g3) := ⟨_, _, _, rfl⟩
      rw [hg] at h
      dsimp only at h
      split at h
      ·rename_i hk2
       unfold badB at h
       simp only [Prod.mk.injEq] at h
       exact absurd h.2.2.2.2 hk2
      ·rename_i hk2
       obtain rfl : g3 = 0 := Classical.byContradiction hk2
       split at h
       ·rename_i hr
        simp only [Prod.mk.injEq, and_true] at h
        obtain ⟨rfl, rfl, rfl, rfl⟩ := h
        obtain ⟨i1, i2, i3⟩ := zfS _ _ _ _ hq
        obtain ⟨k1, k2, k3, k4, k5⟩ := zgS hg
        have hlen := congrArg List.length i1
        rw [List.length_drop, List.length_append] at hlen
        have hn : b.length - q2.length + g2 = 10 + (zcl q1).length + (zbe g1).length := by rw [zbV]; omega
        refine ⟨hr, by omega, ?_, zcD _ (by rw [List.length_take]; omega), i3, k5⟩
        have l1 : ((b.drop 1).take 8).length = 8 := by rw [List.length_take, List.length_drop]; omega
        have h66' : b.getD 0 0 = 66 := Classical.byContradiction h66
        rw [hn]
        unfold zbp
        rw [zch, zeC _ 8 l1, i2, UInt8.ofNat_toNat]
        have c0 : b = b.getD 0 0 :: b.drop 1 := by
         cases b with
         | nil => simp at h0
         | cons x b => rfl
        have c9 : b.drop 9 = b.getD 9 0 :: b.drop 10 := by
         rw [List.drop_eq_getElem_cons (by omega), List.getD_eq_getElem?_getD, List.getElem?_eq_getElem (by omega)]
         rfl
        have c1 : b.drop 1 = (b.drop 1).take 8 ++ (b.getD 9 0 :: b.drop 10) := by
         have := (List.take_append_drop 8 (b.drop 1)).symm
         rw [List.drop_drop, c9] at this
         exact this
        have ct : (b.drop 10).take ((zcl q1).length + (zbe g1).length) = zcl q1 ++ zbe g1 := by
         rw [zbV, ← k2, i1, List.take_add, List.take_left' rfl, List.drop_left' rfl, k4]
        have : b.take (10 + (zcl q1).length + (zbe g1).length) = 66 :: ((b.drop 1).take 8 ++ (b.getD 9 0 :: (b.drop 10).take ((zcl q1).length + (zbe g1).length))) := by
         conv => lhs; rw [c0, h66', c1]
         generalize (b.drop 1).take 8 = x1 at l1 ⊢
         generalize (zcl q1).length = y1
         generalize (zbe g1).length = y2
         rw [show 10 + y1 + y2 = (8 + (1 + (y1 + y2))) + 1 by omega, List.take_succ_cons, List.take_add, List.take_left' l1, List.drop_left' l1, show 1 + (y1 + y2) = (y1 + y2) + 1 by omega, List.take_succ_cons]
        rw [this, ct]
       ·simp [badB] at h
theorem zo5 {b : List UInt8} {v n : Nat} {es : List En} {gs : List Gn} {k : Int} (h : zaE b = (v, es, gs, n, k)) (hk : k ≠ 0) : v = 0 ∧ es = [] ∧ gs = [] ∧ n = 0 := by
 have key : ∀ j : Int, badB j = (v, es, gs, n, k) → v = 0 ∧ es = [] ∧ gs = [] ∧ n = 0 := fun j e => by
  unfold badB at e
  simp only [Prod.mk.injEq] at e
  exact ⟨e.1.symm, e.2.1.symm, e.2.2.1.symm, e.2.2.2.1.symm⟩
 unfold zaE at h
 split at h
 ·exact key _ h
 ·split at h
  ·exact key _ h
  ·split at h
   ·exact key _ h
   ·split at h
    ·exact key _ h
    ·split at h
     ·exact key _ h
     ·split at h
      ·exact key _ h
      ·split at h
       ·simp only [Prod.mk.injEq] at h
        exact absurd h.2.2.2.2.symm hk
       ·exact key _ h
theorem zn1 (b : List UInt8) (h : b.length = 0) : zaE b = badB 2 := by unfold zaE; rw [if_pos h]
theorem zn2 (b : List UInt8) (h : b.length ≠ 0) (h1 : b.getD 0 0 ≠ 66) : zaE b = badB 3 := by unfold zaE; rw [if_neg h, if_pos h1]
theorem zh8 (b : List UInt8) (h : b.length ≠ 0) (h1 : b.getD 0 0 = 66) (h2 : b.length < 10) : zaE b = badB 2 := by unfold zaE; rw [if_neg h, if_neg (not_not_intro h1), if_pos h2]
theorem zn3 (b : List UInt8) (h1 : b.getD 0 0 = 66) (h2 : ¬ b.length < 10) (h3 : 64 < (b.getD 9 0).toNat) : zaE b = badB 3 := by unfold zaE; rw [if_neg (by omega), if_neg (not_not_intro h1), if_neg h2, if_pos h3]
theorem zn4 (b : List UInt8) (h1 : b.getD 0 0 = 66) (h2 : ¬ b.length < 10) (h3 : ¬ 64 < (b.getD 9 0).toNat) (E : List En × List UInt8 × Int) (hE : zaR (b.getD 9 0).toNat (b.drop 10) = E) : zaE b =
  if E.2.2 ≠ 0 then badB E.2.2 else if (zaO E.2.1).2.2 ≠ 0 then badB (zaO E.2.1).2.2 else if zaJ E.1 (zaO E.2.1).1 = true then (valN ((b.drop 1).take 8), E.1, (zaO E.2.1).1, b.length - E.2.1.length + (zaO E.2.1).2.1, 0) else badB 3 := by
 unfold zaE
 rw [hE, if_neg (by omega), if_neg (not_not_intro h1), if_neg h2, if_neg h3]
structure AK where
 b : List UInt8
 s : Int
structure DK where
 a0 : AK
 a1 : AK
 fuse : Int
 keep : Int
 down : Bool
def zaS (a : AK) : Prop := 0 ≤ a.s ∧ a.s ≤ a.b.length ∧ a.b.length ≤ 1048576
instance (a : AK) : Decidable (zaS a) := by unfold zaS; infer_instance
def zaA (d : DK) : Prop := zaS d.a0 ∧ zaS d.a1 ∧ -1 ≤ d.fuse ∧ 0 ≤ d.keep
instance (d : DK) : Decidable (zaA d) := by unfold zaA; infer_instance
def cutN (a : AK) (keep : Int) : Nat := min a.b.length (a.s + keep).toNat
def zbD (a : AK) (keep : Int) : AK := ⟨a.b.take (cutN a keep), cutN a keep⟩
def zgL (d : DK) (keep : Int) : DK := ⟨zbD d.a0 keep, zbD d.a1 keep, -1, d.keep, true⟩
def burn (f : Int) : Int := if 0 < f then f - 1 else f
def setA (d : DK) (k : Nat) (a : AK) : DK := if k = 0 then { d with a0 := a } else { d with a1 := a }
def getA (d : DK) (k : Nat) : AK := if k = 0 then d.a0 else d.a1
def zcW (d : DK) (k : Int) (full : Nat → Bool) (goes done : Nat → AK → AK) : DK × Int :=
 if ¬ (zaA d ∧ (k = 0 ∨ k = 1)) then (d, 1) else if d.down = true then (d, 14) else if full k.toNat = true then (d, 12)
 else if d.fuse = 0 then (zgL (setA d k.toNat (goes k.toNat (getA d k.toNat))) d.keep, 14)
 else ({ setA d k.toNat (done k.toNat (getA d k.toNat)) with fuse := burn d.fuse }, 0)
def zbf (d : DK) (k : Int) (b : List UInt8) : DK × Int := zcW d k (fun j => decide (1048576 < (getA d j).b.length + b.length)) (fun _ a => ⟨a.b ++ b.take d.keep.toNat, a.s⟩) (fun _ a => ⟨a.b ++ b, a.s⟩)
def zda (d : DK) (k : Int) : DK × Int := zcW d k (fun _ => false) (fun _ a => a) (fun _ a => ⟨a.b, a.b.length⟩)
def zcE (d : DK) (k : Int) : DK × Int := zcW d k (fun _ => false) (fun _ a => a) (fun _ _ => ⟨[], 0⟩)
def zbL (d : DK) : DK × Int := if ¬ (zaA d ∧ d.down = true) then (d, 1) else ({ d with down := false }, 0)
def newK : DK := ⟨⟨[], 0⟩, ⟨[], 0⟩, -1, 0, false⟩
theorem zmc (a : AK) (keep : Int) : cutN a keep ≤ a.b.length := Nat.min_le_left _ _
theorem zbS {a : AK} {keep : Int} (h : a.b.length ≤ 1048576) : zaS (zbD a keep) := by
 unfold zbD zaS
 have := zmc a keep
 refine ⟨by show (0 : Int) ≤ (cutN a keep : Int); omega, ?_, ?_⟩
 ·show (cutN a keep : Int) ≤ ((a.b.take (cutN a keep)).length : Int)
  rw [List.length_take]
  omega
 ·show (a.b.take (cutN a keep)).length ≤ 1048576
  rw [List.length_take]
  omega
theorem zn5 {o : AK} (ho : zaS o) (hs : o.s = o.b.length) {keep : Int} (hk : 0 ≤ keep) : zbD o keep = o := by
 unfold zbD cutN
 have : min o.b.length (o.s + keep).toNat = o.b.length := by omega
 rw [this, List.take_length, ← hs]
theorem zfT {f : Int} (h : -1 ≤ f) : -1 ≤ burn f := by
 unfold burn
 split <;> omega
end Go.Proofs.YteljklkgdejhpaaGreatDoor
namespace Go.Proofs.YteljklkgdejhpaaGreatDoor
open Go.RowKit
def vB (c : UInt8) : Value := .int .u8 (c.toNat : Int)
def vW (c : UInt32) : Value := .int .u32 (c.toNat : Int)
def Rd {α : Type} (f : α → Value) (w : World) (A : Option Addr) (l : List α) : Prop :=
 l ≠ [] → ∃ b o, A = some ⟨b, o, none⟩ ∧ ∀ i (h : i < l.length), w.cell? ⟨b, o + i, none⟩ = some (f l[i])
section
variable {α : Type} {f : α → Value} {w w' : World} {A : Option Addr} {l : List α}
theorem Rd.nil : Rd f w A [] := fun h => absurd rfl h
theorem Rd.keep (h : Rd f w A l) (hb : Below w.heap.size w w') : Rd f w' A l := fun hn => by
 obtain ⟨b, o, e, hc⟩ := h hn
 refine ⟨b, o, e, fun i hi => ?_⟩
 have := hc i hi
 rw [hb.cell (p := ⟨b, o + i, none⟩) (World.block_lt_of_cell? w _ this)]
 exact this
theorem Rd.at (h : Rd f w A l) {k : Nat} (hk : k < l.length) : ∃ b o, A = some ⟨b, o, none⟩ ∧ b < w.heap.size ∧ ∀ i (hi : i < l.length), w.cell? ⟨b, o + i, none⟩ = some (f l[i]) := by
 obtain ⟨b, o, e, hc⟩ := h (by rintro rfl; simp at hk)
 exact ⟨b, o, e, World.block_lt_of_cell? w _ (hc k hk), hc⟩
theorem Rd.new (w : World) (l : List α) (cs : Array Value) (e : TypeId) (h : cs = (l.map f).toArray) : Rd f (w.alloc (.cells cs e)) (some ⟨w.heap.size, 0, none⟩) l := fun _ => by
 refine ⟨w.heap.size, 0, rfl, fun i hi => ?_⟩
 subst h
 rw [cell_of_row _ w.heap.size (0 + i) _ e (0, 0) (heap_alloc_new w _)]
 simp [hi]
theorem Rd.new_at (w : World) (g : Nat) (hg : g = w.heap.size) (l : List α) (cs : Array Value) (e : TypeId) (h : cs = (l.map f).toArray) : Rd f (w.alloc (.cells cs e)) (some ⟨g, 0, none⟩) l := by
 subst hg
 exact Rd.new w l cs e h
theorem Rd.drop (h : Rd f w A l) (k : Nat) (cap : Nat) (hc : l.length ≤ cap) : Rd f w (if cap = k then A else A.map (·.add (k * 1))) (l.drop k) := fun hn => by
 have hk : k < l.length := by
  rcases Nat.lt_or_ge k l.length with h | h
  ·exact h
  ·exact absurd (List.drop_eq_nil_of_le h) hn
 obtain ⟨b, o, e, hcell⟩ := h (by rintro rfl; simp at hk)
 subst e
 rw [if_neg (by omega)]
 refine ⟨b, o + k, by simp [Addr.add], fun i hi => ?_⟩
 have hi' : k + i < l.length := by simp at hi; omega
 rw [Nat.add_assoc, hcell (k + i) hi']
 simp
theorem Rd.take (h : Rd f w A l) (k : Nat) : Rd f w A (l.take k) := fun hn => by
 obtain ⟨b, o, e, hcell⟩ := h (by rintro rfl; simp at hn)
 refine ⟨b, o, e, fun i hi => ?_⟩
 have hi' : i < l.length := by simp at hi; omega
 rw [hcell i hi']
 simp
theorem Rd.news {b o : Nat} (h : Rd f w (some ⟨b, o, none⟩) l) (j : Nat) (u : Value) (hu : (l.map f)[j]? = some u) : w.cell? ((⟨b, o, none⟩ : Addr).add j) = some u := by
 have hj : j < l.length := by
  rcases Nat.lt_or_ge j l.length with h | h
  ·exact h
  ·rw [List.getElem?_eq_none (by simpa using h)] at hu
   cases hu
 obtain ⟨b', o', e, hc⟩ := h (by rintro rfl; simp at hj)
 injection e with e
 injection e with e1 e2 _
 subst e1 e2
 have e1 : (⟨b, o, none⟩ : Addr).add j = ⟨b, o + j, none⟩ := by unfold Addr.add; split <;> simp_all
 rw [e1, hc j hj]
 simpa [hj] using hu
theorem Rd.own {base : Nat} {e : TypeId} {n c : Nat} (h : w.ownsRow base e 1 (.slice A n c) n (l.map f)) : Rd f w A l := fun hn => by
 have hl : l.length = n := by simpa using h.1
 have hpos : 0 < n := by
  rcases Nat.eq_zero_or_pos n with h0 | h0
  ·exact absurd (List.eq_nil_of_length_eq_zero (by omega)) hn
  ·exact h0
 obtain ⟨g, cap, hv, _, hlt⟩ := h.form hpos
 have hA : A = some ⟨g, 0, none⟩ := by injection hv
 subst hA
 refine ⟨g, 0, rfl, fun i hi => ?_⟩
 have := h.cells (g := g) rfl i (f l[i]) (by simp [hi])
 have e1 : (⟨g, 0, none⟩ : Addr).add i = ⟨g, 0 + i, none⟩ := by unfold Addr.add; split <;> simp_all
 rw [← e1]
 exact this
end
theorem zeF {P : Program} (t e : TypeId) (ht : P.underlying t = some (.slice e)) (hz : ∀ w, (sizeOf e).run P w = .ok 1 w) (A : Option Addr) (n cap k : Nat) (hk : k ≤ n) (hc : n ≤ cap) :
  ∃ A', (∀ w, (Instr.slice t (.slice A n cap) (some (.int .i64 (k : Int))) none none).run P w = .ok (.slice A' (n - k) (cap - k)) w) ∧
   ∀ {α : Type} (f : α → Value) (w : World) (l : List α), l.length = n → Rd f w A l → Rd f w A' (l.drop k) := by
 have ht' : P.underlying t = some (.slice (P.elem t)) := by simp [Program.elem, ht]
 have he : P.elem t = e := by simp [Program.elem, ht]
 refine ⟨if cap = k then A else A.map (·.add (k * 1)), fun w => ?_, fun f w l hl h => h.drop k cap (by omega)⟩
 rw [run_slice_l w t A n cap ht' .i64 (k : Int) (by omega) (by omega), he, hz]
 simp [Result.andThen, sliced]
theorem zcd {P : Program} (t e : TypeId) (ht : P.underlying t = some (.slice e)) (hz : ∀ w, (sizeOf e).run P w = .ok 1 w) (A : Option Addr) (n cap k : Nat) (hk : k ≤ cap) (w : World) :
  (Instr.slice t (.slice A n cap) none (some (.int .i64 (k : Int))) none).run P w = .ok (.slice A k cap) w := by
 have ht' : P.underlying t = some (.slice (P.elem t)) := by simp [Program.elem, ht]
 have he : P.elem t = e := by simp [Program.elem, ht]
 have e2 : (if cap = 0 then A else A.map (·.add 0)) = A := by
  split
  ·rfl
  ·cases A <;> simp [Addr.add]
 rw [run_slice_h w t A n cap ht' .i64 (k : Int) (by omega) (by omega), he, hz]
 simp only [Result.andThen, sliced, Nat.zero_mul, Nat.sub_zero, Int.toNat_natCast, e2]
theorem zhz {P : Program} (w : World) (src e dst : TypeId) (hs : P.underlying src = some (.slice e)) (he : P.underlying e = some (.int .u8)) (hd : P.underlying dst = some .string)
  (A : Option Addr) (l : List UInt8) (n cap : Nat) (hn : l.length = n) (h : Rd vB w A l) : (convert src dst (.slice A n cap)).run P w = .ok (.string ⟨l.toArray⟩) w := by
 by_cases hl : l = []
 ·subst hl
  subst hn
  cases A with
  | none => rw [run_convert_bytes_nil w src e hs he _ _ dst hd]; rfl
  | some a =>
   rw [run_convert_bytes_string w src dst e _ _ cap hs he hd, run_bytesToString w a _ cap [] (by
    have := run_loadCells_list (P := P) w a [] (fun j v hj => by simp at hj)
    simpa using this)]
   rfl
 ·obtain ⟨b, o, rfl, hc⟩ := h hl
  rw [run_convert_bytes_arg w src e hs he b o n cap (l.map fun c => (c.toNat : Int)) (by simpa using hn) (fun i hi => by
   have hi' : i < l.length := by omega
   rw [hc i hi']
   simp [vB, List.getD, hi']) dst hd]
  have : strOfNums (l.map fun c => (c.toNat : Int)) = ⟨l.toArray⟩ := by
   unfold strOfNums
   congr 2
   rw [List.map_map]
   conv => rhs; rw [← List.map_id l]
   apply List.map_congr_left
   intro x _
   simp
  rw [this]
theorem zh9 (w : World) (cs : Array Value) (e : TypeId) (j : Nat) (u : Value) (h : cs.toList[j]? = some u) : (w.alloc (.cells cs e)).cell? ((⟨w.heap.size, 0, none⟩ : Addr).add j) = some u := by
 have e1 : (⟨w.heap.size, 0, none⟩ : Addr).add j = ⟨w.heap.size, j, none⟩ := by unfold Addr.add; split <;> simp_all
 rw [e1, cell_of_row _ w.heap.size j _ e (0, 0) (heap_alloc_new w _)]
 simpa using h
theorem zmd {a : Int} (h : (Lit.int .u64 a).wf = true) : ∃ v : Nat, v < 18446744073709551616 ∧ a = (v : Int) := by
 simp [Lit.wf, IntKind.min, IntKind.max, IntKind.signed, IntKind.bits] at h
 exact ⟨a.toNat, by omega, by omega⟩
theorem zaa {a w w' : World} (h : Below a.heap.size a w) (k : Below w.heap.size w w') : Below a.heap.size a w' := h.trans (k.mono h.size)
theorem zak {a w : World} (h : Below a.heap.size a w) (o : Obj) : Below a.heap.size a (w.alloc o) := h.alloc h.size o
def RetS {α : Type} (f : α → Value) (w : World) (l : List α) (e : Ending) (w' : World) : Prop :=
 ∃ A cap, e = .returned (.slice A l.length cap) ∧ l.length ≤ cap ∧ Rd f w' A l ∧ Below w.heap.size w w'
def RetO {α : Type} (t : TypeId) (f : α → Value) (w : World) (l : List α) (e : Ending) (w' : World) : Prop :=
 ∃ v, e = .returned v ∧ w'.ownsRow w.heap.size t 1 v l.length (l.map f) ∧ Below w.heap.size w w'
theorem RetS.own {α : Type} {f : α → Value} {w w' : World} {l : List α} {base : Nat} {e : TypeId} {v : Value} (h : w'.ownsRow base e 1 v l.length (l.map f)) (hb : Below w.heap.size w w') : RetS f w l (.returned v) w' := by
 rcases h.2 with ⟨rfl, h0⟩ | ⟨g, cap, cur, rfl, _, _, hc, _⟩
 ·have hl : l = [] := List.eq_nil_of_length_eq_zero h0
  subst hl
  exact ⟨none, 0, rfl, Nat.le_refl _, Rd.nil, hb⟩
 ·exact ⟨_, cap, rfl, hc, Rd.own h, hb⟩
end Go.Proofs.YteljklkgdejhpaaGreatDoor
namespace Go.Proofs.YteljklkgdejhpaaGreatDoor
def hdS (t : List UInt8) : List UInt8 := [UInt8.ofNat (t.length / 256), UInt8.ofNat (t.length % 256)]
def zas (f : List UInt8 → List UInt8) (t : List UInt8) : List UInt8 := hdS t ++ t ++ f (hdS t ++ t)
def cntS (b : List UInt8) : Nat := 256 * (b.getD 0 0).toNat + (b.getD 1 0).toNat
def zcX (b : List UInt8) : List UInt8 := (b.drop 2).take (cntS b)
def zbE (f : List UInt8 → List UInt8) (b : List UInt8) : Bool := decide (6 ≤ b.length) && (decide (cntS b ≤ 60000) && (decide (6 + cntS b ≤ b.length) && decide (zas f (zcX b) = b.take (6 + cntS b))))
def rowF (f : List UInt8 → List UInt8) : Nat → List UInt8 → List (List UInt8) × Nat
 | 0, _ => ([], 0)
 | n + 1, b => if zbE f b = true then (zcX b :: (rowF f n (b.drop (6 + cntS b))).1, 6 + cntS b + (rowF f n (b.drop (6 + cntS b))).2) else ([], 0)
def zaP (f : List UInt8 → List UInt8) (b : List UInt8) : List (List UInt8) × Nat := rowF f b.length b
def zdI (f : List UInt8 → List UInt8) (ts : List (List UInt8)) : List UInt8 := ts.flatMap (zas f)
def mayS (ts : List (List UInt8)) : Prop := ∀ t ∈ ts, t.length ≤ 60000
section
variable {f : List UInt8 → List UInt8} (h4 : ∀ b, (f b).length = 4)
theorem zd7 (t : List UInt8) (ts : List (List UInt8)) : zdI f (t :: ts) = zas f t ++ zdI f ts := List.flatMap_cons ..
theorem zbF {b : List UInt8} (h : zbE f b = true) : 6 ≤ b.length ∧ cntS b ≤ 60000 ∧ 6 + cntS b ≤ b.length ∧ zas f (zcX b) = b.take (6 + cntS b) := by
 unfold zbE at h
 simpa using h
theorem zfU : ∀ (n m : Nat) (b : List UInt8), b.length ≤ n → b.length ≤ m → rowF f n b = rowF f m b
 | 0, 0, _, _, _ => rfl
 | 0, m + 1, b, h, _ => by
  have : zbE f b = false := by
   cases hg : zbE f b with
   | false => rfl
   | true => have := (zbF hg).1; omega
  show ([], 0) = if zbE f b = true then _ else _
  rw [this]
  rfl
 | n + 1, 0, b, _, h => by
  have : zbE f b = false := by
   cases hg : zbE f b with
   | false => rfl
   | true => have := (zbF hg).1; omega
  show (if zbE f b = true then _ else _) = ([], 0)
  rw [this]
  rfl
 | n + 1, m + 1, b, h1, h2 => by
  unfold rowF
  by_cases hg : zbE f b = true
  ·have := (zbF hg).1
   rw [zfU n m (b.drop (6 + cntS b)) (by rw [List.length_drop]; omega) (by rw [List.length_drop]; omega)]
  ·rw [if_neg hg, if_neg hg]
theorem zdg {b : List UInt8} (h : zbE f b = true) : zaP f b = (zcX b :: (zaP f (b.drop (6 + cntS b))).1, 6 + cntS b + (zaP f (b.drop (6 + cntS b))).2) := by
 obtain ⟨n, hn⟩ : ∃ n, b.length = n + 1 := ⟨b.length - 1, by have := (zbF h).1; omega⟩
 have e : zaP f b = rowF f (n + 1) b := by unfold zaP; rw [hn]
 have e2 : rowF f n (b.drop (6 + cntS b)) = zaP f (b.drop (6 + cntS b)) := zfU _ _ _ (by rw [List.length_drop]; omega) (Nat.le_refl _)
 rw [e]
 show (if zbE f b = true then _ else _) = _
 rw [if_pos h, e2]
theorem zc4 {b : List UInt8} (h : zbE f b = false) : zaP f b = ([], 0) := by
 unfold zaP
 cases b.length with
 | zero => rfl
 | succ n =>
  show (if zbE f b = true then _ else _) = _
  rw [h]
  rfl
theorem zpK (t r : List UInt8) (h : t.length ≤ 60000) : cntS (hdS t ++ r) = t.length := by
 unfold cntS hdS
 show 256 * (UInt8.ofNat (t.length / 256)).toNat + (UInt8.ofNat (t.length % 256)).toNat = _
 rw [UInt8.toNat_ofNat', UInt8.toNat_ofNat']
 omega
theorem zeG : ∀ (n : Nat) (b : List UInt8), b.length ≤ n → (zaP f b).2 ≤ b.length ∧ zdI f (zaP f b).1 = b.take (zaP f b).2 ∧ mayS (zaP f b).1
 | 0, b, h => by
  rw [zc4 (f := f) (b := b) (by
   cases hg : zbE f b with
   | false => rfl
   | true => have := (zbF hg).1; omega)]
  exact ⟨Nat.zero_le _, rfl, fun t ht => by cases ht⟩
 | n + 1, b, h => by
  cases hg : zbE f b with
  | false =>
   rw [zc4 hg]
   exact ⟨Nat.zero_le _, rfl, fun t ht => by cases ht⟩
  | true =>
   obtain ⟨g1, g2, g3, g4⟩ := zbF hg
   obtain ⟨i1, i2, i3⟩ := zeG n (b.drop (6 + cntS b)) (by rw [List.length_drop]; omega)
   rw [zdg hg]
   rw [List.length_drop] at i1
   refine ⟨by dsimp only; omega, ?_, fun t ht => ?_⟩
   ·dsimp only
    rw [zd7, i2, g4, List.take_add (i := 6 + cntS b)]
   ·rcases List.mem_cons.1 ht with rfl | ht
    ·unfold zcX
     rw [List.length_take]
     omega
    ·exact i3 t ht
include h4
theorem zaZ (t : List UInt8) : (zas f t).length = 6 + t.length := by
 unfold zas hdS
 rw [List.length_append, List.length_append, h4]
 simp only [List.length_cons, List.length_nil]
 omega
theorem ze6 (t r : List UInt8) (h : t.length ≤ 60000) : cntS (zas f t ++ r) = t.length ∧ zcX (zas f t ++ r) = t ∧ (zas f t ++ r).take (6 + t.length) = zas f t ∧ (zas f t ++ r).drop (6 + t.length) = r := by
 have e : zas f t ++ r = hdS t ++ (t ++ (f (hdS t ++ t) ++ r)) := by
  unfold zas
  simp only [List.append_assoc]
 have hc : cntS (zas f t ++ r) = t.length := by rw [e]; exact zpK t _ h
 have hl := zaZ h4 t
 refine ⟨hc, ?_, List.take_left' hl, List.drop_left' hl⟩
 unfold zcX
 rw [hc, e]
 show (t ++ (f (hdS t ++ t) ++ r)).take t.length = t
 exact List.take_left' rfl
theorem zme (t r : List UInt8) (h : t.length ≤ 60000) : zbE f (zas f t ++ r) = true := by
 obtain ⟨p1, p2, p3, _⟩ := ze6 h4 t r h
 have hl := zaZ h4 t
 unfold zbE
 rw [p1, p2, p3, List.length_append, hl, decide_eq_true (by omega), decide_eq_true h, decide_eq_true (by omega), decide_eq_true rfl]
 rfl
theorem zhA : ∀ (ts : List (List UInt8)) (r : List UInt8), mayS ts → zaP f (zdI f ts ++ r) = (ts ++ (zaP f r).1, (zdI f ts).length + (zaP f r).2)
 | [], r, _ => by
  show zaP f r = ([] ++ (zaP f r).1, 0 + (zaP f r).2)
  rw [Nat.zero_add]
  rfl
 | t :: ts, r, h => by
  have ht := h t (List.mem_cons_self ..)
  have ih := zhA ts r (fun x hx => h x (List.mem_cons_of_mem _ hx))
  have e : zdI f (t :: ts) ++ r = zas f t ++ (zdI f ts ++ r) := by rw [zd7, List.append_assoc]
  obtain ⟨p1, p2, _, p4⟩ := ze6 h4 t (zdI f ts ++ r) ht
  rw [e, zdg (zme h4 t _ ht), p1, p2, p4, ih, zd7, List.length_append, zaZ h4]
  simp only [List.cons_append, Nat.add_assoc]
theorem zmf (ts : List (List UInt8)) (h : mayS ts) : zaP f (zdI f ts) = (ts, (zdI f ts).length) := by
 have := zhA h4 ts [] h
 have e0 : zaP f [] = ([], 0) := zc4 (by rfl)
 rw [List.append_nil, e0, List.append_nil, Nat.add_zero] at this
 exact this
theorem zkd (t : List UInt8) (k : Nat) (h : t.length ≤ 60000) (hk : k < (zas f t).length) : zaP f ((zas f t).take k) = ([], 0) := by
 refine zc4 ?_
 have hl := zaZ h4 t
 have hkl : ((zas f t).take k).length = k := by rw [List.length_take]; omega
 by_cases h6 : k < 6
 ·unfold zbE
  rw [hkl, decide_eq_false (by omega)]
  rfl
 ·have hc : cntS ((zas f t).take k) = t.length := by
   have := (ze6 h4 t [] h).1
   rw [List.append_nil] at this
   rw [← this]
   unfold cntS
   rw [List.getD_eq_getElem?_getD, List.getElem?_take, if_pos (by omega), List.getD_eq_getElem?_getD, List.getElem?_take, if_pos (by omega), ← List.getD_eq_getElem?_getD, ← List.getD_eq_getElem?_getD]
  unfold zbE
  rw [hkl, hc, decide_eq_false (p := 6 + t.length ≤ k) (by omega)]
  simp
end
section
variable {f : List UInt8 → List UInt8} (h4 : ∀ b, (f b).length = 4)
theorem zn6 : ∀ (b : List UInt8), 2 ≤ b.length → ∃ x y r, b = x :: y :: r ∧ cntS b = 256 * x.toNat + y.toNat
 | [], h => absurd h (by simp)
 | [_], h => absurd h (by simp)
 | x :: y :: r, _ => ⟨x, y, r, rfl, rfl⟩
theorem zpL (b : List UInt8) : cntS b < 65536 := by
 unfold cntS
 have h1 := (b.getD 0 0).toNat_lt
 have h2 := (b.getD 1 0).toNat_lt
 omega
theorem zjf {b : List UInt8} (h : 6 + cntS b ≤ b.length) : (zcX b).length = cntS b := by
 unfold zcX
 rw [List.length_take, List.length_drop]
 omega
theorem zo6 {b : List UInt8} (h : 2 + cntS b ≤ b.length) : hdS (zcX b) ++ zcX b = b.take (2 + cntS b) := by
 obtain ⟨x, y, r, rfl, hc⟩ := zn6 b (by omega)
 have hl : (zcX (x :: y :: r)).length = cntS (x :: y :: r) := by
  unfold zcX
  rw [List.length_take, List.length_drop]
  omega
 have hx := x.toNat_lt
 have hy := y.toNat_lt
 unfold hdS
 rw [hl, hc, show (256 * x.toNat + y.toNat) / 256 = x.toNat by omega, show (256 * x.toNat + y.toNat) % 256 = y.toNat by omega, UInt8.ofNat_toNat, UInt8.ofNat_toNat, Nat.add_comm 2]
 unfold zcX
 rw [hc]
 rfl
theorem zn7 (b : List UInt8) : zbE f b = (decide (2 ≤ b.length) && (decide (cntS b ≤ 60000) && (decide (6 + cntS b ≤ b.length) && decide (f (b.take (2 + cntS b)) = (b.drop (2 + cntS b)).take 4)))) := by
 by_cases h : 6 + cntS b ≤ b.length
 ·have e1 := zo6 (b := b) (by omega)
  have e2 : b.take (6 + cntS b) = b.take (2 + cntS b) ++ (b.drop (2 + cntS b)).take 4 := by rw [show 6 + cntS b = 2 + cntS b + 4 by omega, List.take_add]
  unfold zbE zas
  rw [e1, e2, decide_eq_true (p := 6 ≤ b.length) (by omega), decide_eq_true (p := 2 ≤ b.length) (by omega)]
  congr 3
  rw [decide_eq_decide]
  exact List.append_right_inj _
 ·unfold zbE
  rw [decide_eq_false (p := 6 + cntS b ≤ b.length) h]
  simp
include h4
theorem zo7 (b : List UInt8) : zaP f (b.take (zaP f b).2) = ((zaP f b).1, (zaP f b).2) ∧ (b.take (zaP f b).2).length = (zaP f b).2 := by
 obtain ⟨h1, h2, h3⟩ := zeG (f := f) b.length b (Nat.le_refl _)
 have hl : (b.take (zaP f b).2).length = (zaP f b).2 := by rw [List.length_take]; omega
 have := zmf h4 _ h3
 rw [h2, hl] at this
 exact ⟨this, hl⟩
end
theorem zkT {f : List UInt8 → List UInt8} {b : List UInt8} (h : (zaP f b).2 = b.length) (h0 : 0 < b.length) : zbE f b = true := by
 cases hg : zbE f b with
 | true => rfl
 | false =>
  rw [zc4 hg] at h
  simp at h
  omega
theorem zoT {f : List UInt8 → List UInt8} (b : List UInt8) : (zaP f b).2 ≤ b.length := (zeG (f := f) b.length b (Nat.le_refl _)).1
abbrev Us := Nat × Nat × Nat
def ltU (a b : Us) : Bool := decide (a.1 < b.1 ∨ (a.1 = b.1 ∧ (a.2.1 < b.2.1 ∨ (a.2.1 = b.2.1 ∧ a.2.2 < b.2.2))))
theorem zjg {a b : Us} : ltU a b = true ↔ a.1 < b.1 ∨ (a.1 = b.1 ∧ (a.2.1 < b.2.1 ∨ (a.2.1 = b.2.1 ∧ a.2.2 < b.2.2))) := by unfold ltU; exact decide_eq_true_iff
theorem zo8 (a : Us) : ltU a a = false := by
 unfold ltU
 rw [decide_eq_false_iff_not]
 omega
theorem zeH {a b c : Us} (h : ltU a b = true) (k : ltU b c = true) : ltU a c = true := by
 rw [zjg] at *
 omega
theorem zo9 {a b : Us} (h : ltU a b = false) (hn : a ≠ b) : ltU b a = true := by
 rw [zjg]
 unfold ltU at h
 rw [decide_eq_false_iff_not] at h
 obtain ⟨a1, a2, a3⟩ := a
 obtain ⟨b1, b2, b3⟩ := b
 dsimp only at *
 have : ¬ (a1 = b1 ∧ a2 = b2 ∧ a3 = b3) := fun ⟨h1, h2, h3⟩ => hn (by rw [h1, h2, h3])
 omega
def zcY : List Us → Bool
 | a :: b :: l => ltU a b && zcY (b :: l)
 | _ => true
abbrev SrtU (l : List Us) : Prop := l.Pairwise (fun a b => ltU a b = true)
theorem zd8 : ∀ l : List Us, zcY l = true ↔ SrtU l
 | [] => by simp [zcY]
 | [a] => by simp [zcY]
 | a :: b :: l => by
  have ih := zd8 (b :: l)
  unfold zcY
  rw [Bool.and_eq_true, ih]
  constructor
  ·rintro ⟨h1, h2⟩
   refine List.pairwise_cons.2 ⟨fun x hx => ?_, h2⟩
   rcases List.mem_cons.1 hx with rfl | hx
   ·exact h1
   ·exact zeH h1 ((List.pairwise_cons.1 h2).1 x hx)
  ·intro h
   obtain ⟨h1, h2⟩ := List.pairwise_cons.1 h
   exact ⟨h1 b (List.mem_cons_self ..), h2⟩
def insU : List Us → Us → List Us
 | [], g => [g]
 | a :: l, g => if ltU a g then a :: insU l g else g :: a :: l
theorem zfI (l : List Us) (g x : Us) : x ∈ insU l g ↔ x ∈ l ∨ x = g := by
 induction l with
 | nil => simp [insU]
 | cons a l ih =>
  unfold insU
  split
  ·rw [List.mem_cons, ih, List.mem_cons]
   constructor
   ·rintro (h | h | h)
    ·exact .inl (.inl h)
    ·exact .inl (.inr h)
    ·exact .inr h
   ·rintro ((h | h) | h)
    ·exact .inl h
    ·exact .inr (.inl h)
    ·exact .inr (.inr h)
  ·rw [List.mem_cons, or_comm]
theorem zjh (l : List Us) (g : Us) : (insU l g).length = l.length + 1 := by
 induction l with
 | nil => rfl
 | cons a l ih =>
  unfold insU
  split
  ·rw [List.length_cons, ih, List.length_cons]
  ·rfl
theorem zmg {l : List Us} {g : Us} (h : SrtU l) (hg : g ∉ l) : SrtU (insU l g) := by
 induction l with
 | nil => exact List.pairwise_singleton _ _
 | cons a l ih =>
  obtain ⟨h1, h2⟩ := List.pairwise_cons.1 h
  unfold insU
  split
  ·rename_i ha
   refine List.pairwise_cons.2 ⟨fun x hx => ?_, ih h2 (fun hm => hg (List.mem_cons_of_mem _ hm))⟩
   rcases (zfI l g x).1 hx with hx | rfl
   ·exact h1 x hx
   ·exact ha
  ·rename_i ha
   have hga : ltU g a = true := zo9 (Bool.eq_false_iff.2 ha) (fun e => hg (by rw [← e]; exact List.mem_cons_self ..))
   refine List.pairwise_cons.2 ⟨fun x hx => ?_, h⟩
   rcases List.mem_cons.1 hx with rfl | hx
   ·exact hga
   ·exact zeH hga (h1 x hx)
abbrev Ca := Int × Nat × List Us
def za9 (fl : Nat) (l : List Us) : List Us := l.filter (fun u => decide (fl ≤ u.2.2))
def zby (c : Ca) : Bool := decide (0 ≤ c.1 ∧ c.1 ≤ 64) && (decide ((c.2.2.length : Int) ≤ c.1) && (c.2.2.all (fun u => decide (c.2.1 ≤ u.2.2)) && zcY c.2.2))
def putC (c : Ca) (u : Us) : Ca × Int := if zby c = false then (c, 1) else if u.2.2 < c.2.1 then (c, 10) else if u ∈ c.2.2 then (c, 11) else if c.1 ≤ (c.2.2.length : Int) then (c, 12) else ((c.1, c.2.1, insU c.2.2 u), 0)
def zbi (c : Ca) (fl : Nat) : Ca × Int := if zby c = false then (c, 1) else ((c.1, max c.2.1 fl, za9 (max c.2.1 fl) c.2.2), 0)
theorem zct {c : Ca} : zby c = true ↔ (0 ≤ c.1 ∧ c.1 ≤ 64) ∧ (c.2.2.length : Int) ≤ c.1 ∧ (∀ u ∈ c.2.2, c.2.1 ≤ u.2.2) ∧ SrtU c.2.2 := by
 unfold zby
 rw [Bool.and_eq_true, Bool.and_eq_true, Bool.and_eq_true, decide_eq_true_iff, decide_eq_true_iff, zd8, List.all_eq_true]
 simp only [decide_eq_true_iff]
theorem zfV {fl : Nat} {l : List Us} {x : Us} : x ∈ za9 fl l ↔ x ∈ l ∧ fl ≤ x.2.2 := by
 unfold za9
 rw [List.mem_filter, decide_eq_true_iff]
theorem zkU {fl : Nat} {l : List Us} (h : SrtU l) : SrtU (za9 fl l) := h.filter _
theorem zdK (fl : Nat) (l : List Us) : (za9 fl l).length ≤ l.length := List.length_filter_le _ _
theorem zfW {c : Ca} (fl : Nat) (h : zby c = true) : zby (zbi c fl).1 = true ∧ (zbi c fl).2 = 0 := by
 obtain ⟨h1, h2, h3, h4⟩ := zct.1 h
 unfold zbi
 rw [h, if_neg (by decide)]
 refine ⟨zct.2 ⟨h1, ?_, fun u hu => (zfV.1 hu).2, zkU h4⟩, rfl⟩
 have := zdK (max c.2.1 fl) c.2.2
 dsimp only
 omega
theorem zia {c : Ca} {u : Us} (h : zby c = true) : zby (putC c u).1 = true := by
 obtain ⟨h1, h2, h3, h4⟩ := zct.1 h
 unfold putC
 rw [h, if_neg (by decide)]
 split
 ·exact h
 ·rename_i k1
  split
  ·exact h
  ·rename_i k2
   split
   ·exact h
   ·rename_i k3
    refine zct.2 ⟨h1, ?_, fun x hx => ?_, zmg h4 k2⟩
    ·dsimp only
     rw [zjh]
     omega
    ·rcases (zfI _ _ _).1 hx with hx | rfl
     ·exact h3 x hx
     ·dsimp only
      omega
theorem ze7 (c : Ca) (u : Us) (h : zby c = true) : (u.2.2 < c.2.1 ∧ putC c u = (c, 10)) ∨ (c.2.1 ≤ u.2.2 ∧ u ∈ c.2.2 ∧ putC c u = (c, 11)) ∨ (c.2.1 ≤ u.2.2 ∧ u ∉ c.2.2 ∧ c.1 ≤ (c.2.2.length : Int) ∧ putC c u = (c, 12)) ∨ (c.2.1 ≤ u.2.2 ∧ u ∉ c.2.2 ∧ (c.2.2.length : Int) < c.1 ∧ putC c u = ((c.1, c.2.1, insU c.2.2 u), 0)) := by
 unfold putC
 rw [h, if_neg (by decide)]
 by_cases k1 : u.2.2 < c.2.1
 ·left
  exact ⟨k1, by rw [if_pos k1]⟩
 ·right
  rw [if_neg k1]
  by_cases k2 : u ∈ c.2.2
  ·left
   exact ⟨by omega, k2, by rw [if_pos k2]⟩
  ·right
   rw [if_neg k2]
   by_cases k3 : c.1 ≤ (c.2.2.length : Int)
   ·left
    exact ⟨by omega, k2, k3, by rw [if_pos k3]⟩
   ·right
    exact ⟨by omega, k2, by omega, by rw [if_neg k3]⟩
abbrev zcF (g : Us) : Prop := g.1 < 18446744073709551616 ∧ g.2.1 < 18446744073709551616 ∧ g.2.2 < 18446744073709551616
def fitU (l : List Us) : Prop := ∀ x ∈ l, zcF x
def hasU (l : List Us) (g : Us) : Bool := decide (g ∈ l)
theorem zhB : ∀ l : List Us, zcY l = true ↔ ∀ k (h : k + 1 < l.length), ltU l[k] l[k + 1] = true
 | [] => by simp [zcY]
 | [a] => by simp [zcY]
 | a :: b :: l => by
  have ih := zhB (b :: l)
  unfold zcY
  rw [Bool.and_eq_true, ih]
  constructor
  ·rintro ⟨h1, h2⟩ k hk
   cases k with
   | zero => exact h1
   | succ k => exact h2 k (by simpa using hk)
  ·intro h
   exact ⟨h 0 (by simp), fun k hk => h (k + 1) (by simpa using hk)⟩
theorem zhC {l : List Us} (h : zcY l = true) {i j : Nat} (hij : i < j) (hj : j < l.length) : ltU l[i] l[j] = true := by
 have hp := (zd8 l).1 h
 exact List.pairwise_iff_getElem.1 hp i j (by omega) hj hij
def PlU (l : List Us) (g : Us) (i : Nat) : Prop := (∀ k (h : k < l.length), k < i → ltU l[k] g = true) ∧ ∀ k (h : k < l.length), i ≤ k → ltU l[k] g = false
theorem zmh : ∀ {l : List Us} {g : Us} {i : Nat}, PlU l g i → i ≤ l.length → insU l g = l.take i ++ g :: l.drop i
 | [], g, i, _, hi => by
  have : i = 0 := by simpa using hi
  subst this
  rfl
 | a :: l, g, 0, h, _ => by
  have := h.2 0 (by simp) (Nat.le_refl _)
  unfold insU
  simp only [List.getElem_cons_zero] at this
  rw [this]
  rfl
 | a :: l, g, i + 1, h, hi => by
  have h0 := h.1 0 (by simp) (by omega)
  simp only [List.getElem_cons_zero] at h0
  have ih : insU l g = l.take i ++ g :: l.drop i := zmh ⟨fun k hk hki => h.1 (k + 1) (by simpa using hk) (by omega), fun k hk hki => h.2 (k + 1) (by simpa using hk) (by omega)⟩ (by simpa using hi)
  unfold insU
  rw [h0, if_pos rfl, ih]
  rfl
theorem zpa {l : List Us} {g : Us} {i : Nat} (h : PlU l g i) (hs : zcY l = true) : g ∈ l ↔ ∃ hi : i < l.length, l[i] = g := by
 constructor
 ·intro hg
  obtain ⟨k, hk, rfl⟩ := List.getElem_of_mem hg
  have hki : ¬ k < i := fun hlt => by
   have := h.1 k hk hlt
   rw [zo8] at this
   cases this
  have hik : ¬ i < k := fun hlt => by
   have h1 := zhC hs hlt hk
   have h2 := h.2 i (by omega) (Nat.le_refl _)
   rw [h1] at h2
   cases h2
  have : k = i := by omega
  subst this
  exact ⟨hk, rfl⟩
 ·rintro ⟨hi, rfl⟩
  exact List.getElem_mem hi
theorem zn8 {l : List Us} {g : Us} {m : Nat} (hs : zcY l = true) (hm : m < l.length) (h : ltU l[m] g = true) : ∀ k (h : k < l.length), k < m + 1 → ltU l[k] g = true := fun k hk hkm => by
 by_cases e : k = m
 ·subst e; exact h
 ·exact zeH (zhC hs (by omega) hm) h
theorem zmi {l : List Us} {g : Us} {m : Nat} (hs : zcY l = true) (hm : m < l.length) (h : ltU l[m] g = false) : ∀ k (h : k < l.length), m ≤ k → ltU l[k] g = false := fun k hk hkm => by
 by_cases e : k = m
 ·subst e; exact h
 ·rw [Bool.eq_false_iff]
  intro h2
  have := zeH (zhC hs (by omega : m < k) hk) h2
  rw [h] at this
  cases this
def cmpU (a b : Nat) : Int := if a < b then -1 else if b < a then 1 else 0
def ordU (a b : Us) : Int := if cmpU a.1 b.1 ≠ 0 then cmpU a.1 b.1 else if cmpU a.2.1 b.2.1 ≠ 0 then cmpU a.2.1 b.2.1 else cmpU a.2.2 b.2.2
theorem zhD (a b : Nat) : cmpU a b < 0 ↔ a < b := by unfold cmpU; (repeat' split) <;> omega
theorem zdL (a b : Nat) : cmpU a b = 0 ↔ a = b := by unfold cmpU; (repeat' split) <;> omega
theorem zke (a b : Us) : ordU a b < 0 ↔ ltU a b = true := by
 rw [zjg]
 unfold ordU
 have h1 := zhD a.1 b.1
 have h2 := zdL a.1 b.1
 have h3 := zhD a.2.1 b.2.1
 have h4 := zdL a.2.1 b.2.1
 have h5 := zhD a.2.2 b.2.2
 (repeat' split) <;> omega
theorem zmj (a b : Us) : ordU a b = 0 ↔ a = b := by
 have h2 := zdL a.1 b.1
 have h4 := zdL a.2.1 b.2.1
 have h5 := zdL a.2.2 b.2.2
 obtain ⟨a1, a2, a3⟩ := a
 obtain ⟨b1, b2, b3⟩ := b
 rw [Prod.mk.injEq, Prod.mk.injEq]
 unfold ordU
 dsimp only at *
 (repeat' split) <;> omega
def ze8 (fl : Nat) (l : List Us) (k : Nat) : Prop := ∀ j (h : j < l.length), j < k → fl ≤ l[j].2.2
theorem zib {fl : Nat} {l : List Us} : (l.any (fun u => decide (u.2.2 < fl)) = false) ↔ ∀ u ∈ l, fl ≤ u.2.2 := by
 rw [List.any_eq_false]
 simp only [decide_eq_true_iff, Nat.not_lt]
theorem zmk (c : Ca) : zby c = (decide (0 ≤ c.1 ∧ c.1 ≤ 64) && (decide ((c.2.2.length : Int) ≤ c.1) && (!(c.2.2.any (fun u => decide (u.2.2 < c.2.1))) && zcY c.2.2))) := by
 unfold zby
 congr 3
 rw [Bool.eq_iff_iff, List.all_eq_true, Bool.not_eq_true', zib]
 simp only [decide_eq_true_iff]
theorem zdM {fl : Nat} {l : List Us} {k : Nat} (h : k < l.length) : za9 fl (l.take (k + 1)) = if fl ≤ l[k].2.2 then za9 fl (l.take k) ++ [l[k]] else za9 fl (l.take k) := by
 unfold za9
 rw [List.take_succ_eq_append_getElem h, List.filter_append]
 by_cases hf : fl ≤ l[k].2.2
 ·rw [if_pos hf]
  simp [hf]
 ·rw [if_neg hf]
  simp [hf]
theorem zic {fl : Nat} {l : List Us} (h : ∀ u ∈ l, fl ≤ u.2.2) : za9 fl l = l := by
 unfold za9
 rw [List.filter_eq_self]
 intro u hu
 exact decide_eq_true (h u hu)
theorem zml {fl : Nat} {l : List Us} (h : fitU l) : fitU (za9 fl l) := fun x hx => h x (zfV.1 hx).1
theorem zn9 {l : List Us} {g : Us} (h : fitU l) (hg : zcF g) : fitU (insU l g) := fun x hx => by
 rcases (zfI l g x).1 hx with hx | rfl
 ·exact h x hx
 ·exact hg
def KeepU (fl : Nat) (l : List Us) (i j : Nat) (m : List Us) : Prop := m.length = l.length ∧ m.take i = za9 fl (l.take j) ∧ i = (za9 fl (l.take j)).length ∧ m.drop j = l.drop j ∧ j ≤ l.length
theorem KeepU.le {fl : Nat} {l m : List Us} {i j : Nat} (h : KeepU fl l i j m) : i ≤ j := by
 have := zdK fl (l.take j)
 rw [List.length_take] at this
 have := h.2.2.1
 omega
theorem KeepU.at {fl : Nat} {l m : List Us} {i j : Nat} (h : KeepU fl l i j m) (hj : j < l.length) : ∃ hm : j < m.length, m[j] = l[j] := by
 refine ⟨by rw [h.1]; exact hj, ?_⟩
 have e := h.2.2.2.1
 have hm : j < m.length := by rw [h.1]; exact hj
 rw [List.drop_eq_getElem_cons hm, List.drop_eq_getElem_cons hj] at e
 injection e
theorem KeepU.skip {fl : Nat} {l m : List Us} {i j : Nat} (h : KeepU fl l i j m) (hj : j < l.length) (hb : ¬ fl ≤ l[j].2.2) : KeepU fl l i (j + 1) m := by
 obtain ⟨h1, h2, h3, h4, h5⟩ := h
 have e : za9 fl (l.take (j + 1)) = za9 fl (l.take j) := by rw [zdM hj, if_neg hb]
 refine ⟨h1, by rw [e]; exact h2, by rw [e]; exact h3, ?_, hj⟩
 have h4' : (m.drop j).drop 1 = (l.drop j).drop 1 := by rw [h4]
 rw [List.drop_drop, List.drop_drop] at h4'
 exact h4'
theorem KeepU.keep {fl : Nat} {l m : List Us} {i j : Nat} (h : KeepU fl l i j m) (hj : j < l.length) (hb : fl ≤ l[j].2.2) : KeepU fl l (i + 1) (j + 1) (m.set i l[j]) := by
 have hij := h.le
 obtain ⟨h1, h2, h3, h4, h5⟩ := h
 have e : za9 fl (l.take (j + 1)) = za9 fl (l.take j) ++ [l[j]] := by rw [zdM hj, if_pos hb]
 have him : i < m.length := by omega
 refine ⟨by rw [List.length_set]; exact h1, ?_, by rw [e, List.length_append, ← h3]; rfl, ?_, hj⟩
 ·rw [e, List.take_succ_eq_append_getElem (by rw [List.length_set]; exact him), List.getElem_set_self, List.take_set_of_le (Nat.le_refl _), h2]
 ·rw [List.drop_set_of_lt (by omega)]
  have h4' : (m.drop j).drop 1 = (l.drop j).drop 1 := by rw [h4]
  rw [List.drop_drop, List.drop_drop] at h4'
  exact h4'
theorem KeepU.start {fl : Nat} {l : List Us} {k : Nat} (hk : k < l.length) (hs : ∀ j (h : j < l.length), j < k → fl ≤ l[j].2.2) (hb : ¬ fl ≤ l[k].2.2) : KeepU fl l k (k + 1) l := by
 have e : za9 fl (l.take k) = l.take k := zic (fun u hu => by
  obtain ⟨j, hj, rfl⟩ := List.getElem_of_mem hu
  rw [List.length_take] at hj
  rw [List.getElem_take]
  exact hs j (by omega) (by omega))
 have h0 : KeepU fl l k k l := ⟨rfl, e.symm, by rw [e, List.length_take]; omega, rfl, by omega⟩
 exact h0.skip hk hb
theorem KeepU.done {fl : Nat} {l m : List Us} {i : Nat} (h : KeepU fl l i l.length m) : m.take i = za9 fl l ∧ i = (za9 fl l).length := by
 obtain ⟨_, h2, h3, _, _⟩ := h
 rw [List.take_length] at h2 h3
 exact ⟨h2, h3⟩
theorem zkV (c : Ca) (f : Nat) : (zbi c f).1.2.2.length ≤ c.2.2.length := by
 cases h : zby c with
 | false => unfold zbi; rw [h, if_pos rfl]; exact Nat.le_refl _
 | true => unfold zbi; rw [h, if_neg (by decide)]; exact zdK _ _
theorem zoa {c : Ca} {u : Us} (h : fitU c.2.2) (hu : zcF u) : fitU (putC c u).1.2.2 := by
 cases hr : zby c with
 | false => unfold putC; rw [hr, if_pos rfl]; exact h
 | true =>
  rcases ze7 c u hr with ⟨_, e⟩ | ⟨_, _, e⟩ | ⟨_, _, _, e⟩ | ⟨_, _, _, e⟩ <;> rw [e]
  ·exact h
  ·exact h
  ·exact h
  ·exact zn9 h hu
theorem zgT {c : Ca} (f : Nat) (h : fitU c.2.2) : fitU (zbi c f).1.2.2 := by
 cases hr : zby c with
 | false => unfold zbi; rw [hr, if_pos rfl]; exact h
 | true => unfold zbi; rw [hr, if_neg (by decide)]; exact zml h
abbrev Bn := Nat × List En × List Gn
structure MemK where
 clock : Nat
 b : Bn
 c : Ca
def zaX (m : MemK) : Bool := zaJ m.b.2.1 m.b.2.2 && zby m.c
def zhE (x : Bn) : Prop := x.1 < 18446744073709551616 ∧ fitE x.2.1 ∧ fitG x.2.2
def zpM (c : Ca) : Prop := c.2.1 < 18446744073709551616 ∧ fitU c.2.2
def fitM (m : MemK) : Prop := m.clock < 18446744073709551616 ∧ zhE m.b ∧ zpM m.c
def useL (u : Us) : List UInt8 := putL u.1 ++ (putL u.2.1 ++ putL u.2.2)
def zbM (l : List Us) : List UInt8 := l.flatMap useL
def zcz (u : Us) (clock floor : Nat) : List UInt8 := 85 :: (useL u ++ (putL clock ++ putL floor))
def zaL (x : Bn) : List UInt8 := zbp x.1 x.2.1 x.2.2
def zdF (x : Bn) : List UInt8 := 78 :: zaL x
def zaz (n : Nat) (m : MemK) : List UInt8 :=
 77 :: (putL n ++ (putL m.clock ++ (UInt8.ofNat m.c.1.toNat :: (putL m.c.2.1 ++ (UInt8.ofNat m.c.2.2.length :: (zbM m.c.2.2 ++ zaL m.b))))))
def za5 (b : List UInt8) (k : Nat) : Nat := valN ((b.drop k).take 8)
def zcG (b : List UInt8) (k : Nat) : Us := (za5 b k, za5 b (k + 8), za5 b (k + 16))
def zcA (b : List UInt8) : Nat → Nat → List Us
 | _, 0 => []
 | k, n + 1 => zcG b k :: zcA b (k + 24) n
def allB (b : List UInt8) : Option Bn := if (zaE b).2.2.2.2 = 0 ∧ (zaE b).2.2.2.1 = b.length then some ((zaE b).1, (zaE b).2.1, (zaE b).2.2.1) else none
def zid (b : List UInt8) (x : Bn) : MemK := ⟨za5 b 9, x, (((b.getD 17 0).toNat : Int), za5 b 18, zcA b 27 (b.getD 26 0).toNat)⟩
def za2 (b : List UInt8) : Option (Nat × MemK) :=
 if b.length < 27 ∨ b.getD 0 0 ≠ 77 then none else if b.length < 27 + 24 * (b.getD 26 0).toNat then none
 else match allB (b.drop (27 + 24 * (b.getD 26 0).toNat)) with
  | none => none
  | some x => if zaX (zid b x) = true then some (za5 b 1, zid b x) else none
def zaY (m : MemK) (u : Us) (clock floor : Nat) : MemK × Int :=
 if clock < m.clock then (m, 13) else if (putC (zbi m.c floor).1 u).2 ≠ 0 then (m, (putC (zbi m.c floor).1 u).2) else (⟨clock, m.b, (putC (zbi m.c floor).1 u).1⟩, 0)
def zbT (m : MemK) (b : List UInt8) : Option MemK :=
 if b.getD 0 0 = 85 ∧ b.length = 41 then (if (zaY m (zcG b 1) (za5 b 25) (za5 b 33)).2 = 0 then some (zaY m (zcG b 1) (za5 b 25) (za5 b 33)).1 else none)
 else if b.getD 0 0 = 78 then (match allB (b.drop 1) with
  | none => none
  | some x => if m.b.1 < x.1 then some { m with b := x } else none)
 else none
def goOn : MemK → Nat → List (List UInt8) → MemK × Nat
 | m, s, [] => (m, s)
 | m, s, t :: ts => match zbT m t with
  | some k => goOn k (s + (t.length + 6)) ts
  | none => (m, s)
def za6 (f : List UInt8 → List UInt8) (b : List UInt8) : Option (Nat × MemK × Nat) :=
 match (zaP f b).1 with
 | [] => none
 | t :: ts => match za2 t with
  | none => none
  | some x => some (x.1, goOn x.2 (t.length + 6) ts)
def hasK (f : List UInt8 → List UInt8) (d : DK) : Option (Nat × (Nat × MemK × Nat)) :=
 match za6 f d.a0.b, za6 f d.a1.b with
 | some a, some b => if b.1 ≤ a.1 then some (0, a) else some (1, b)
 | some a, none => some (0, a)
 | none, some b => some (1, b)
 | none, none => none
theorem zer (v : Nat) : (putL v).length = 8 := rfl
theorem zcm (p : List UInt8) (v : Nat) (r : List UInt8) (hv : v < 18446744073709551616) {k : Nat} (hk : k = p.length) : za5 (p ++ (putL v ++ r)) k = v := by
 subst hk
 unfold za5
 rw [List.drop_left, List.take_append_of_le_length (by rw [zer]; exact Nat.le_refl _), List.take_of_length_le (by rw [zer]; exact Nat.le_refl _), zdf v hv]
theorem zfX (u : Us) : (useL u).length = 24 := rfl
theorem zbW : ∀ l : List Us, (zbM l).length = 24 * l.length
 | [] => rfl
 | u :: l => by
  have ih := zbW l
  unfold zbM at *
  rw [List.flatMap_cons, List.length_append, ih, zfX, List.length_cons]
  omega
theorem zie (p : List UInt8) (u : Us) (r : List UInt8) (hu : zcF u) {k : Nat} (hk : k = p.length) : zcG (p ++ (useL u ++ r)) k = u := by
 obtain ⟨h0, h1, h2⟩ := hu
 unfold zcG useL
 have e0 : p ++ (putL u.1 ++ (putL u.2.1 ++ putL u.2.2) ++ r) = p ++ (putL u.1 ++ (putL u.2.1 ++ (putL u.2.2 ++ r))) := by simp only [List.append_assoc]
 have e1 : p ++ (putL u.1 ++ (putL u.2.1 ++ putL u.2.2) ++ r) = (p ++ putL u.1) ++ (putL u.2.1 ++ (putL u.2.2 ++ r)) := by simp only [List.append_assoc]
 have e2 : p ++ (putL u.1 ++ (putL u.2.1 ++ putL u.2.2) ++ r) = (p ++ putL u.1 ++ putL u.2.1) ++ (putL u.2.2 ++ r) := by simp only [List.append_assoc]
 have n0 : za5 (p ++ (putL u.1 ++ (putL u.2.1 ++ putL u.2.2) ++ r)) k = u.1 := by rw [e0]; exact zcm _ _ _ h0 hk
 have n1 : za5 (p ++ (putL u.1 ++ (putL u.2.1 ++ putL u.2.2) ++ r)) (k + 8) = u.2.1 := by rw [e1]; exact zcm _ _ _ h1 (by rw [List.length_append, zer, hk])
 have n2 : za5 (p ++ (putL u.1 ++ (putL u.2.1 ++ putL u.2.2) ++ r)) (k + 16) = u.2.2 := by rw [e2]; exact zcm _ _ _ h2 (by rw [List.length_append, List.length_append, zer, zer, hk])
 rw [n0, n1, n2]
theorem zfY : ∀ (l : List Us) (p r : List UInt8) (k : Nat), fitU l → k = p.length → zcA (p ++ (zbM l ++ r)) k l.length = l
 | [], _, _, _, _, _ => rfl
 | u :: l, p, r, k, hf, hk => by
  have h1 : zcG (p ++ (zbM (u :: l) ++ r)) k = u := by
   have e : p ++ (zbM (u :: l) ++ r) = p ++ (useL u ++ (zbM l ++ r)) := by unfold zbM; rw [List.flatMap_cons, List.append_assoc]
   rw [e]
   exact zie p u _ (hf u (List.mem_cons_self ..)) hk
  have h2 : zcA (p ++ (zbM (u :: l) ++ r)) (k + 24) l.length = l := by
   have e : p ++ (zbM (u :: l) ++ r) = (p ++ useL u) ++ (zbM l ++ r) := by unfold zbM; rw [List.flatMap_cons]; simp only [List.append_assoc]
   rw [e]
   exact zfY l (p ++ useL u) r (k + 24) (fun x hx => hf x (List.mem_cons_of_mem _ hx)) (by rw [List.length_append, zfX, hk])
  show zcG _ k :: zcA _ (k + 24) l.length = u :: l
  rw [h1, h2]
theorem zgU {x : Bn} (h : zaJ x.2.1 x.2.2 = true) (hf : zhE x) : allB (zaL x) = some x := by
 have := zn0 (v := x.1) (es := x.2.1) (gs := x.2.2) [] h hf.1 hf.2.1 hf.2.2
 rw [List.append_nil] at this
 unfold allB zaL
 rw [this, if_pos ⟨rfl, rfl⟩]
theorem zfZ {b : List UInt8} {x : Bn} (h : allB b = some x) : zaJ x.2.1 x.2.2 = true ∧ zhE x ∧ zaL x = b := by
 unfold allB at h
 obtain ⟨v, es, gs, n, k, hr⟩ : ∃ v es gs n k, zaE b = (v, es, gs, n, k) := ⟨_, _, _, _, _, rfl⟩
 rw [hr] at h
 dsimp only at h
 split at h
 ·rename_i hk
  obtain ⟨rfl, rfl⟩ := hk
  injection h with h
  subst h
  obtain ⟨h1, _, h2, h3, h4, h5⟩ := zkc hr
  rw [List.take_length] at h2
  exact ⟨h1, ⟨h3, h4, h5⟩, h2⟩
 ·cases h
theorem zaU {m : MemK} : zaX m = true ↔ zaJ m.b.2.1 m.b.2.2 = true ∧ zby m.c = true := by unfold zaX; rw [Bool.and_eq_true]
theorem zfJ {n : Nat} {m : MemK} (h : zaX m = true) (hf : fitM m) (hn : n < 18446744073709551616) : za2 (zaz n m) = some (n, m) := by
 obtain ⟨hb, hc⟩ := zaU.1 h
 obtain ⟨hf1, hf2, hf3, hf4⟩ := hf
 obtain ⟨⟨hr0, hr1⟩, hr2, _, _⟩ := zct.1 hc
 obtain ⟨clock, bn, room, fl, l⟩ := m
 dsimp only at *
 have hl : l.length ≤ 64 := by omega
 obtain ⟨rm, rfl⟩ : ∃ rm : Nat, room = (rm : Int) := ⟨room.toNat, by omega⟩
 have hrm : rm ≤ 64 := by omega
 have erm : (UInt8.ofNat rm).toNat = rm := by rw [UInt8.toNat_ofNat']; omega
 have el : (UInt8.ofNat l.length).toNat = l.length := by rw [UInt8.toNat_ofNat']; omega
 obtain ⟨M, hM⟩ : ∃ M, M = zaz n ⟨clock, bn, (rm : Int), fl, l⟩ := ⟨_, rfl⟩
 have hM' : M = 77 :: (putL n ++ (putL clock ++ (UInt8.ofNat rm :: (putL fl ++ (UInt8.ofNat l.length :: (zbM l ++ zaL bn)))))) := hM
 have e1 : M = [77] ++ (putL n ++ (putL clock ++ (UInt8.ofNat rm :: (putL fl ++ (UInt8.ofNat l.length :: (zbM l ++ zaL bn)))))) := hM'
 have e9 : M = ([77] ++ putL n) ++ (putL clock ++ (UInt8.ofNat rm :: (putL fl ++ (UInt8.ofNat l.length :: (zbM l ++ zaL bn))))) := by rw [e1]; simp only [List.append_assoc]
 have e17 : M = ([77] ++ putL n ++ putL clock) ++ (UInt8.ofNat rm :: (putL fl ++ (UInt8.ofNat l.length :: (zbM l ++ zaL bn)))) := by rw [e1]; simp only [List.append_assoc]
 have e18 : M = ([77] ++ putL n ++ putL clock ++ [UInt8.ofNat rm]) ++ (putL fl ++ (UInt8.ofNat l.length :: (zbM l ++ zaL bn))) := by rw [e1]; simp only [List.append_assoc, List.singleton_append, List.cons_append, List.nil_append]
 have e26 : M = ([77] ++ putL n ++ putL clock ++ [UInt8.ofNat rm] ++ putL fl) ++ (UInt8.ofNat l.length :: (zbM l ++ zaL bn)) := by rw [e1]; simp only [List.append_assoc, List.singleton_append, List.cons_append, List.nil_append]
 have e27 : M = ([77] ++ putL n ++ putL clock ++ [UInt8.ofNat rm] ++ putL fl ++ [UInt8.ofNat l.length]) ++ (zbM l ++ zaL bn) := by rw [e1]; simp only [List.append_assoc, List.singleton_append, List.cons_append, List.nil_append]
 have n1 : za5 M 1 = n := by rw [e1]; exact zcm _ _ _ hn rfl
 have n9 : za5 M 9 = clock := by rw [e9]; exact zcm _ _ _ hf1 rfl
 have n17 : (M.getD 17 0).toNat = rm := by
  have hg : M.getD 17 0 = UInt8.ofNat rm := by rw [e17]; rfl
  rw [hg, erm]
 have n18 : za5 M 18 = fl := by rw [e18]; exact zcm _ _ _ hf3 rfl
 have n26 : (M.getD 26 0).toNat = l.length := by
  have hg : M.getD 26 0 = UInt8.ofNat l.length := by rw [e26]; rfl
  rw [hg, el]
 have n27 : zcA M 27 l.length = l := by rw [e27]; exact zfY l _ _ 27 hf4 rfl
 have hp : ([77] ++ putL n ++ putL clock ++ [UInt8.ofNat rm] ++ putL fl ++ [UInt8.ofNat l.length]).length = 27 := rfl
 have nb : M.drop (27 + 24 * l.length) = zaL bn := by
  rw [e27, List.drop_append, hp, List.drop_of_length_le (by rw [hp]; omega), List.nil_append, List.drop_append, zbW, List.drop_of_length_le (by rw [zbW]; omega), List.nil_append, show 27 + 24 * l.length - 27 - 24 * l.length = 0 by omega, List.drop_zero]
 have hlen : 27 + 24 * l.length ≤ M.length := by rw [e27, List.length_append, hp, List.length_append, zbW]; omega
 have h77 : M.getD 0 0 = 77 := by rw [hM']; rfl
 have hmem : zid M bn = ⟨clock, bn, (rm : Int), fl, l⟩ := by
  unfold zid
  rw [n9, n17, n18, n26, n27]
 rw [← hM]
 unfold za2
 rw [if_neg (by rw [h77]; intro hh; rcases hh with hh | hh; omega; exact hh rfl), n26, if_neg (by omega), nb, zgU hb hf2]
 dsimp only
 rw [hmem, if_pos h, n1]
theorem zhF (u : Us) (c f : Nat) : (zcz u c f).length = 41 := rfl
theorem zkf {m : MemK} {u : Us} {clock floor : Nat} (hu : zcF u) (hc : clock < 18446744073709551616) (hf : floor < 18446744073709551616) (h : (zaY m u clock floor).2 = 0) : zbT m (zcz u clock floor) = some (zaY m u clock floor).1 := by
 have e1 : zcz u clock floor = [85] ++ (useL u ++ (putL clock ++ putL floor)) := rfl
 have e25 : zcz u clock floor = ([85] ++ useL u) ++ (putL clock ++ putL floor) := by rw [e1]; simp only [List.append_assoc]
 have e33 : zcz u clock floor = ([85] ++ useL u ++ putL clock) ++ (putL floor ++ []) := by rw [e1]; simp only [List.append_assoc, List.append_nil]
 have n1 : zcG (zcz u clock floor) 1 = u := by rw [e1]; exact zie _ _ _ hu rfl
 have n25 : za5 (zcz u clock floor) 25 = clock := by rw [e25]; exact zcm _ _ _ hc rfl
 have n33 : za5 (zcz u clock floor) 33 = floor := by rw [e33]; exact zcm _ _ _ hf rfl
 unfold zbT
 rw [n1, n25, n33, if_pos ⟨rfl, rfl⟩, if_pos h]
theorem zkg {m : MemK} {x : Bn} (h : zaJ x.2.1 x.2.2 = true) (hf : zhE x) (hv : m.b.1 < x.1) : zbT m (zdF x) = some { m with b := x } := by
 have h0 : (zdF x).getD 0 0 = 78 := rfl
 have hd : (zdF x).drop 1 = zaL x := rfl
 unfold zbT
 rw [h0, if_neg (fun hh => by have := hh.1; cases this), if_pos rfl, hd, zgU h hf]
 dsimp only
 rw [if_pos hv]
theorem zgV {m : MemK} {u : Us} {clock floor : Nat} (h : zaX m = true) : zaX (zaY m u clock floor).1 = true := by
 obtain ⟨hb, hc⟩ := zaU.1 h
 unfold zaY
 split
 ·exact h
 ·split
  ·exact h
  ·exact zaU.2 ⟨hb, zia (zfW floor hc).1⟩
theorem zgW {m k : MemK} {b : List UInt8} (h : zaX m = true) (hg : zbT m b = some k) : zaX k = true ∧ m.b.1 ≤ k.b.1 ∧ m.clock ≤ k.clock := by
 unfold zbT at hg
 split at hg
 ·split at hg
  ·rename_i h0
   injection hg with hg
   subst hg
   refine ⟨zgV h, ?_, ?_⟩
   ·unfold zaY
    split
    ·exact Nat.le_refl _
    ·split <;> exact Nat.le_refl _
   ·unfold zaY
    split
    ·exact Nat.le_refl _
    ·split
     ·exact Nat.le_refl _
     ·rename_i h1 _
      exact Nat.le_of_not_lt h1
  ·cases hg
 ·split at hg
  ·split at hg
   ·cases hg
   ·rename_i x hx
    split at hg
    ·rename_i hv
     injection hg with hg
     subst hg
     exact ⟨zaU.2 ⟨(zfZ hx).1, (zaU.1 h).2⟩, Nat.le_of_lt hv, Nat.le_refl _⟩
    ·cases hg
  ·cases hg
theorem zmm : ∀ (ts : List (List UInt8)) (m : MemK) (s : Nat), s ≤ (goOn m s ts).2 ∧ (goOn m s ts).2 ≤ s + (ts.map (fun t => t.length + 6)).sum
 | [], m, s => ⟨Nat.le_refl _, Nat.le_refl _⟩
 | t :: ts, m, s => by
  unfold goOn
  cases hg : zbT m t with
  | none => exact ⟨Nat.le_refl _, Nat.le_add_right _ _⟩
  | some k =>
   have ih := zmm ts k (s + (t.length + 6))
   dsimp only
   rw [List.map_cons, List.sum_cons]
   omega
theorem zif : ∀ (ts : List (List UInt8)) (m : MemK) (s : Nat) (t : List UInt8), (goOn m s ts).2 = s + (ts.map (fun t => t.length + 6)).sum →
  goOn m s (ts ++ [t]) = match zbT (goOn m s ts).1 t with
   | some k => (k, (goOn m s ts).2 + (t.length + 6))
   | none => goOn m s ts
 | [], m, s, t, _ => by
  show goOn m s [t] = _
  unfold goOn
  cases hg : zbT m t with
  | none => rfl
  | some k => rfl
 | x :: ts, m, s, t, h => by
  rw [List.cons_append]
  unfold goOn at h ⊢
  cases hg : zbT m x with
  | none =>
   rw [hg] at h
   dsimp only at h
   rw [List.map_cons, List.sum_cons] at h
   omega
  | some k =>
   rw [hg] at h
   dsimp only at h ⊢
   exact zif ts k (s + (x.length + 6)) t (by rw [h, List.map_cons, List.sum_cons]; omega)
theorem zgX : ∀ (ts : List (List UInt8)) (m : MemK) (s : Nat), zaX m = true → zaX (goOn m s ts).1 = true
 | [], _, _, h => h
 | t :: ts, m, s, h => by
  unfold goOn
  cases hg : zbT m t with
  | none => exact h
  | some k => exact zgX ts k _ (zgW h hg).1
section
variable {f : List UInt8 → List UInt8} (h4 : ∀ b, (f b).length = 4)
include h4
theorem zeI : ∀ ts : List (List UInt8), (zdI f ts).length = (ts.map (fun t => t.length + 6)).sum
 | [] => rfl
 | t :: ts => by
  rw [zd7, List.length_append, zaZ h4, zeI ts, List.map_cons, List.sum_cons]
  omega
theorem zkh {t : List UInt8} {n : Nat} {m : MemK} (ht : t.length ≤ 60000) (hr : za2 t = some (n, m)) : za6 f (zas f t) = some (n, m, (zas f t).length) := by
 have h1 : zaP f (zas f t) = ([t], (zas f t).length) := by
  have := zmf h4 [t] (fun x hx => by rw [List.mem_singleton] at hx; rw [hx]; exact ht)
  have e : zdI f [t] = zas f t := by unfold zdI; simp
  rwa [e] at this
 unfold za6
 rw [h1]
 dsimp only
 rw [hr]
 dsimp only
 unfold goOn
 rw [zaZ h4, Nat.add_comm]
def zig (f : List UInt8 → List UInt8) (b : List UInt8) (n : Nat) (m : MemK) : Prop := za6 f b = some (n, m, b.length)
theorem zgY {b : List UInt8} {n : Nat} {m : MemK} (h : zig f b n m) : ∃ t ts x, b = zdI f (t :: ts) ∧ mayS (t :: ts) ∧ za2 t = some (n, x) ∧ goOn x (t.length + 6) ts = (m, (t.length + 6) + (ts.map (fun t => t.length + 6)).sum) := by
 unfold zig za6 at h
 obtain ⟨r1, r2, r3⟩ := zeG (f := f) b.length b (Nat.le_refl _)
 cases hrow : (zaP f b).1 with
 | nil => rw [hrow] at h; cases h
 | cons t ts =>
  rw [hrow] at h r2 r3
  dsimp only at h
  cases hm : za2 t with
  | none => rw [hm] at h; cases h
  | some x =>
   rw [hm] at h
   dsimp only at h
   injection h with h
   injection h with e1 e2
   have hle := zmm ts x.2 (t.length + 6)
   have hfl := congrArg List.length r2
   rw [zeI h4, List.length_take, List.map_cons, List.sum_cons] at hfl
   have e3 := congrArg Prod.snd e2
   dsimp only at e3
   have hb : (zaP f b).2 = b.length := by omega
   rw [hb, List.take_length] at r2
   refine ⟨t, ts, x.2, r2.symm, r3, by rw [hm, ← e1], ?_⟩
   rw [e2]
   congr 1
   omega
theorem zf0 {t : List UInt8} {ts : List (List UInt8)} (r : List UInt8) (h : mayS (t :: ts)) (hr : (zaP f r).1 = []) : za6 f (zdI f (t :: ts) ++ r) = match za2 t with
  | none => none
  | some x => some (x.1, goOn x.2 (t.length + 6) ts) := by
 unfold za6
 rw [zhA h4 (t :: ts) r h, hr, List.append_nil]
theorem zf1 {b t : List UInt8} {n : Nat} {m k : MemK} (h : zig f b n m) (ht : t.length ≤ 60000) (hg : zbT m t = some k) : zig f (b ++ zas f t) n k := by
 obtain ⟨t0, ts, x, rfl, hm, hr, hgo⟩ := zgY h4 h
 have e : zdI f (t0 :: ts) ++ zas f t = zdI f (t0 :: (ts ++ [t])) := by unfold zdI; simp
 have hm2 : mayS (t0 :: (ts ++ [t])) := fun y hy => by
  rcases List.mem_cons.1 hy with rfl | hy
  ·exact hm _ (List.mem_cons_self ..)
  ·rcases List.mem_append.1 hy with hy | hy
   ·exact hm _ (List.mem_cons_of_mem _ hy)
   ·rw [List.mem_singleton] at hy
    rw [hy]
    exact ht
 have h2 := zf0 h4 [] hm2 (by unfold zaP rowF; rfl)
 rw [List.append_nil, hr] at h2
 dsimp only at h2
 have h3 := zif ts x (t0.length + 6) t (by rw [hgo])
 rw [hgo] at h3
 dsimp only at h3
 rw [hg] at h3
 dsimp only at h3
 rw [h3] at h2
 unfold zig
 rw [e, h2, zeI h4, List.map_cons, List.sum_cons, List.map_append, List.sum_append]
 congr 3
 simp
 omega
theorem zmn {b t : List UInt8} {n : Nat} {m : MemK} (h : zig f b n m) (ht : t.length ≤ 60000) (j : Nat) (hj : j < (zas f t).length) : za6 f (b ++ (zas f t).take j) = some (n, m, b.length) := by
 obtain ⟨t0, ts, x, e, hm, hr, hgo⟩ := zgY h4 h
 have h1 := zf0 h4 ((zas f t).take j) hm (by rw [zkd h4 t j ht hj])
 have h2 := zf0 h4 [] hm (by unfold zaP rowF; rfl)
 rw [List.append_nil] at h2
 rw [e, h1, ← h2, ← e]
 exact h
theorem zmo {t : List UInt8} (ht : t.length ≤ 60000) (j : Nat) (hj : j < (zas f t).length) : za6 f ((zas f t).take j) = none := by
 unfold za6
 rw [zkd h4 t j ht hj]
end
theorem zcK {f : List UInt8 → List UInt8} {b : List UInt8} {n s : Nat} {m : MemK} (h : za6 f b = some (n, m, s)) : zaX m = true := by
 unfold za6 at h
 split at h
 ·cases h
 ·rename_i t ts _
  split at h
  ·cases h
  ·rename_i x hx
   injection h with h
   injection h with _ h
   have hr : zaX x.2 = true := by
    unfold za2 at hx
    split at hx
    ·cases hx
    ·split at hx
     ·cases hx
     ·split at hx
      ·cases hx
      ·split at hx
       ·rename_i hr
        injection hx with hx
        rw [← hx]
        exact hr
       ·cases hx
   have := zgX ts x.2 (t.length + 6) hr
   rw [h] at this
   exact this
structure ShK where
 d : DK
 turn : Int
 num : Nat
 m : MemK
def zcu : MemK := ⟨0, (0, [], []), (0, 0, [])⟩
def zbG (d : DK) : ShK := ⟨d, 0, 0, zcu⟩
def zav (f : List UInt8 → List UInt8) (s : ShK) : Prop :=
 zaA s.d ∧ s.d.down = false ∧ (s.turn = 0 ∨ s.turn = 1) ∧ s.num ≤ 4611686018427387904 ∧ hasK f s.d = some (s.turn.toNat, s.num, s.m, (getA s.d s.turn.toNat).b.length) ∧ (getA s.d s.turn.toNat).s = (getA s.d s.turn.toNat).b.length
def zdb (f : List UInt8 → List UInt8) (d : DK) (k : Int) (t : List UInt8) : DK × Int := if (zbf d k (zas f t)).2 ≠ 0 then zbf d k (zas f t) else zda (zbf d k (zas f t)).1 k
def zbd (f : List UInt8 → List UInt8) (d : DK) (k : Int) (t : List UInt8) : DK × Int := if (zcE d k).2 = 0 then zdb f (zcE d k).1 k t else zcE d k
def zbA (f : List UInt8 → List UInt8) (s : ShK) : ShK × Int :=
 if 4611686018427387904 ≤ s.num then (s, 15)
 else if (zbd f s.d (1 - s.turn) (zaz (s.num + 1) s.m)).2 ≠ 0 then (zbG (zbd f s.d (1 - s.turn) (zaz (s.num + 1) s.m)).1, (zbd f s.d (1 - s.turn) (zaz (s.num + 1) s.m)).2)
 else (⟨(zbd f s.d (1 - s.turn) (zaz (s.num + 1) s.m)).1, 1 - s.turn, s.num + 1, s.m⟩, 0)
def zcZ (f : List UInt8 → List UInt8) (d : DK) (room : Int) : ShK :=
 match hasK f d with
 | some x => ⟨d, (x.1 : Int), x.2.1, x.2.2.1⟩
 | none => ⟨d, 1, 0, ⟨0, (0, [], []), (room, 0, [])⟩⟩
def zcv (f : List UInt8 → List UInt8) (d : DK) (room : Int) : ShK × Int :=
 if ¬ (zaA d ∧ (0 ≤ room ∧ room ≤ 64)) then (zbG d, 1) else if d.down = true then (zbG d, 14)
 else if (zbA f (zcZ f d room)).2 ≠ 0 then (zbG (zbA f (zcZ f d room)).1.d, (zbA f (zcZ f d room)).2) else zbA f (zcZ f d room)
def zb5 (f : List UInt8 → List UInt8) (s : ShK) (m : MemK) (t : List UInt8) : ShK × Int :=
 if 8192 < (getA s.d s.turn.toNat).b.length + t.length + 6 then (if (zbA f { s with m := m }).2 = 15 then (s, 15) else zbA f { s with m := m })
 else if (zdb f s.d s.turn t).2 ≠ 0 then (zbG (zdb f s.d s.turn t).1, (zdb f s.d s.turn t).2) else (⟨(zdb f s.d s.turn t).1, s.turn, s.num, m⟩, 0)
open Classical in
noncomputable def zbq (f : List UInt8 → List UInt8) (s : ShK) (u : Us) (clock floor : Nat) : ShK × Int :=
 if ¬ zav f s then (s, 1) else if (zaY s.m u clock floor).2 ≠ 0 then (s, (zaY s.m u clock floor).2) else zb5 f s (zaY s.m u clock floor).1 (zcz u clock floor)
open Classical in
noncomputable def zaD (f : List UInt8 → List UInt8) (s : ShK) (x : Bn) : ShK × Int :=
 if ¬ (zav f s ∧ zaJ x.2.1 x.2.2 = true) then (s, 1) else if x.1 ≤ s.m.b.1 then (s, 13) else zb5 f s { s.m with b := x } (zdF x)
def mkD (k : Nat) (a o : AK) (fu ke : Int) (dn : Bool) : DK := if k = 0 then ⟨a, o, fu, ke, dn⟩ else ⟨o, a, fu, ke, dn⟩
theorem zpN (d : DK) (k : Nat) (hk : k = 0 ∨ k = 1) : d = mkD k (getA d k) (getA d (1 - k)) d.fuse d.keep d.down := by
 rcases hk with rfl | rfl <;> rfl
theorem zdN (k : Nat) (hk : k = 0 ∨ k = 1) (a o : AK) (fu ke : Int) (dn : Bool) : getA (mkD k a o fu ke dn) k = a ∧ getA (mkD k a o fu ke dn) (1 - k) = o := by
 rcases hk with rfl | rfl <;> exact ⟨rfl, rfl⟩
theorem zbN {k : Nat} (hk : k = 0 ∨ k = 1) {a o : AK} {fu ke : Int} {dn : Bool} : zaA (mkD k a o fu ke dn) ↔ zaS a ∧ zaS o ∧ -1 ≤ fu ∧ 0 ≤ ke := by
 rcases hk with rfl | rfl
 ·exact Iff.rfl
 ·unfold mkD zaA
  simp only [Nat.one_ne_zero, if_false]
  exact ⟨fun ⟨h1, h2, h3⟩ => ⟨h2, h1, h3⟩, fun ⟨h1, h2, h3⟩ => ⟨h2, h1, h3⟩⟩
theorem zaM (k : Nat) (a o : AK) (fu ke : Int) (dn : Bool) : (mkD k a o fu ke dn).down = dn ∧ (mkD k a o fu ke dn).fuse = fu ∧ (mkD k a o fu ke dn).keep = ke := by
 unfold mkD
 split <;> exact ⟨rfl, rfl, rfl⟩
theorem zpb {k : Nat} (hk : k = 0 ∨ k = 1) {a o : AK} {ke : Int} (ha : zaS a) (ho : zaS o) (hke : 0 ≤ ke) : zbL (mkD k a o (-1) ke true) = (mkD k a o (-1) ke false, 0) := by
 have h : zaA (mkD k a o (-1) ke true) := (zbN hk).2 ⟨ha, ho, by omega, hke⟩
 unfold zbL
 rw [if_neg (by intro hh; exact hh ⟨h, (zaM k a o (-1) ke true).1⟩)]
 unfold mkD
 split <;> rfl
theorem ze9 {k : Nat} (hk : k = 0 ∨ k = 1) {a o : AK} {fu ke : Int} (h : zaA (mkD k a o fu ke false)) (full : Nat → Bool) (goes done : Nat → AK → AK) (hf : full (1 - k) = false) :
  zcW (mkD k a o fu ke false) (1 - (k : Int)) full goes done = if fu = 0 then (mkD k (zbD a ke) (zbD (goes (1 - k) o) ke) (-1) ke true, 14) else (mkD k a (done (1 - k) o) (burn fu) ke false, 0) := by
 unfold zcW
 rcases hk with rfl | rfl
 ·rw [if_neg (by intro hh; exact hh ⟨h, .inr rfl⟩), if_neg (by rw [(zaM 0 a o fu ke false).1]; decide)]
  have e : (1 - ((0 : Nat) : Int)).toNat = 1 := rfl
  rw [e, if_neg (by rw [show (1 : Nat) = 1 - 0 from rfl, hf]; decide)]
  by_cases h0 : fu = 0
  ·rw [if_pos (by rw [(zaM 0 a o fu ke false).2.1]; exact h0), if_pos h0]
   rfl
  ·rw [if_neg (by rw [(zaM 0 a o fu ke false).2.1]; exact h0), if_neg h0]
   rfl
 ·rw [if_neg (by intro hh; exact hh ⟨h, .inl rfl⟩), if_neg (by rw [(zaM 1 a o fu ke false).1]; decide)]
  have e : (1 - ((1 : Nat) : Int)).toNat = 0 := rfl
  rw [e, if_neg (by rw [show (0 : Nat) = 1 - 1 from rfl, hf]; decide)]
  by_cases h0 : fu = 0
  ·rw [if_pos (by rw [(zaM 1 a o fu ke false).2.1]; exact h0), if_pos h0]
   rfl
  ·rw [if_neg (by rw [(zaM 1 a o fu ke false).2.1]; exact h0), if_neg h0]
   rfl
theorem zih {k : Nat} (hk : k = 0 ∨ k = 1) {a o : AK} {fu ke : Int} (h : zaA (mkD k a o fu ke false)) (full : Nat → Bool) (goes done : Nat → AK → AK) (hf : full k = false) :
  zcW (mkD k a o fu ke false) (k : Int) full goes done = if fu = 0 then (mkD k (zbD (goes k a) ke) (zbD o ke) (-1) ke true, 14) else (mkD k (done k a) o (burn fu) ke false, 0) := by
 unfold zcW
 rcases hk with rfl | rfl
 ·rw [if_neg (by intro hh; exact hh ⟨h, .inl rfl⟩), if_neg (by rw [(zaM 0 a o fu ke false).1]; decide)]
  have e : ((0 : Nat) : Int).toNat = 0 := rfl
  rw [e, if_neg (by rw [hf]; decide)]
  by_cases h0 : fu = 0
  ·rw [if_pos (by rw [(zaM 0 a o fu ke false).2.1]; exact h0), if_pos h0]
   rfl
  ·rw [if_neg (by rw [(zaM 0 a o fu ke false).2.1]; exact h0), if_neg h0]
   rfl
 ·rw [if_neg (by intro hh; exact hh ⟨h, .inr rfl⟩), if_neg (by rw [(zaM 1 a o fu ke false).1]; decide)]
  have e : ((1 : Nat) : Int).toNat = 1 := rfl
  rw [e, if_neg (by rw [hf]; decide)]
  by_cases h0 : fu = 0
  ·rw [if_pos (by rw [(zaM 1 a o fu ke false).2.1]; exact h0), if_pos h0]
   rfl
  ·rw [if_neg (by rw [(zaM 1 a o fu ke false).2.1]; exact h0), if_neg h0]
   rfl
end Go.Proofs.YteljklkgdejhpaaGreatDoor
namespace Go.Proofs.YteljklkgdejhpaaGreatDoor
open Go.RowKit
section
variable {P : Program} (w : World)
theorem zcn (base : Nat) (t ty e : TypeId) (i : TypeInfo) (ht : P.underlying t = some (.slice e)) (hi : P.info? e = some i)
  (v : Value) (n : Nat) (xs : List Value) (hown : w.ownsRow base e 1 v n xs) (c : Nat) : (Builtin.append_ #[t, t] ty #[v, .slice none 0 c]).run P w = .ok v w := by
 rcases hown.2 with ⟨rfl, rfl⟩ | ⟨g, cap, cur, rfl, _, _, hnc, _⟩
 ·simp [Builtin.append_, run_underlying ht, sizeOf, typeInfo, hi, Builtin.lenOf, Builtin.firstCells]
 ·simp [Builtin.append_, run_underlying ht, sizeOf, typeInfo, hi, Builtin.lenOf, Builtin.firstCells, hnc, storeCells]
theorem zhG {α : Type} {f : α → Value} (base : Nat) (t ty e : TypeId) (i : TypeInfo) (z : Value) (bytes : Nat) (ht : P.underlying t = some (.slice e)) (hi : P.info? e = some i) (hz : i.zero = some z)
  (hsize : i.size = 1) (hby : i.bytes = bytes) (hzs : z.cells.size = 1) (v : Value) (n : Nat) (xs : List Value) (hown : w.ownsRow base e 1 v n xs)
  (A : Option Addr) (l : List α) (c : Nat) (hr : Rd f w A l) (h1 : ∀ x, (f x).oneCell' = true)
  (h63 : n + l.length ≤ maxLen) (hbytes : (n + l.length) * bytes ≤ 140737488355328) (hbase : base ≤ w.heap.size) :
  ∃ v' w', (Builtin.append_ #[t, t] ty #[v, .slice A l.length c]).run P w = .ok v' w' ∧ w'.ownsRow base e 1 v' (n + l.length) (xs ++ l.map f) ∧ w.grownBy w' v.ownBlock := by
 have hone : ∀ u ∈ l.map f, u.oneCell' = true := by
  intro u hu
  simp only [List.mem_map] at hu
  obtain ⟨x, _, rfl⟩ := hu
  exact h1 x
 by_cases hl : l = []
 ·subst hl
  cases A with
  | none => exact ⟨v, w, zcn w base t ty e i ht hi v n xs hown c, by simpa using hown, ⟨rfl, rfl, rfl, Nat.le_refl _, fun _ _ _ => rfl⟩⟩
  | some ad =>
   obtain ⟨v', w', hrun, h2, h3, _⟩ := run_append_own (P := P) w base t ty e i z 1 bytes ht hi hz hsize hby hzs (by omega) v n xs hown ad 0 c [] rfl (fun j u h => by simp at h) (fun u h => by simp at h) h63 hbytes hbase
   exact ⟨v', w', hrun, h2, h3⟩
 ·obtain ⟨b, o, rfl, _⟩ := hr hl
  obtain ⟨v', w', hrun, h2, h3, _⟩ := run_append_own (P := P) w base t ty e i z 1 bytes ht hi hz hsize hby hzs (by omega) v n xs hown ⟨b, o, none⟩ l.length c (l.map f) (by simp) hr.news hone h63 hbytes hbase
  exact ⟨v', w', hrun, h2, h3⟩
theorem zii {α : Type} {f : α → Value} {o : Oper} {a : Act} {K : Act → World → Prop} {Q : Exit → Act → World → Prop} (s x : Operand) (t : TypeId)
  (ho : o.op = .call { callee := .builtin .append, args := #[s, x], argTypes := #[t, t] })
  (base : Nat) (e : TypeId) (i : TypeInfo) (z : Value) (bytes : Nat) (ht : P.underlying t = some (.slice e)) (hi : P.info? e = some i) (hz : i.zero = some z)
  (hsize : i.size = 1) (hby : i.bytes = bytes) (hzs : z.cells.size = 1) (v : Value) (n : Nat) (xs : List Value) (hs : a.eval s = v) (hown : w.ownsRow base e 1 v n xs)
  (A : Option Addr) (l : List α) (c : Nat) (hx : a.eval x = .slice A l.length c) (hr : Rd f w A l) (h1 : ∀ x, (f x).oneCell' = true)
  (h63 : n + l.length ≤ maxLen) (hbytes : (n + l.length) * bytes ≤ 140737488355328) (hbase : base ≤ w.heap.size)
  (h : ∀ v' w', w'.ownsRow base e 1 v' (n + l.length) (xs ++ l.map f) → w.grownBy w' v.ownBlock → K (a.put o.dst v') w') : o.wp P a w K Q := by
 obtain ⟨v', w', hr, h2, h3⟩ := zhG (P := P) w base t o.type e i z bytes ht hi hz hsize hby hzs v n xs hown A l c hr h1 h63 hbytes hbase
 unfold Oper.wp execOp
 simp only [ho, resolve, invoke, builtin, Sem.run_bind, Sem.run_pure, Result.andThen_ok, List.map_toArray, List.map_cons, List.map_nil, hs, hx, hr]
 exact h v' w' h2 h3
theorem zcw {α : Type} {f : α → Value} {ops : Array Oper} {rest : List Oper} {o : Oper} {a : Act} {Q : Exit → Act → World → Prop} (hgd : o.guard = none) (s x : Operand) (t : TypeId)
  (ho : o.op = .call { callee := .builtin .append, args := #[s, x], argTypes := #[t, t] })
  (base : Nat) (e : TypeId) (i : TypeInfo) (z : Value) (bytes : Nat) (ht : P.underlying t = some (.slice e)) (hi : P.info? e = some i) (hz : i.zero = some z)
  (hsize : i.size = 1) (hby : i.bytes = bytes) (hzs : z.cells.size = 1) (v : Value) (n : Nat) (xs : List Value) (hs : a.eval s = v) (hown : w.ownsRow base e 1 v n xs)
  (A : Option Addr) (l : List α) (c : Nat) (hx : a.eval x = .slice A l.length c) (hr : Rd f w A l) (h1 : ∀ x, (f x).oneCell' = true)
  (h63 : n + l.length ≤ maxLen) (hbytes : (n + l.length) * bytes ≤ 140737488355328) (hbase : base ≤ w.heap.size)
  (h : ∀ v' w', w'.ownsRow base e 1 v' (n + l.length) (xs ++ l.map f) → w.grownBy w' v.ownBlock → wpList P ops Q rest (a.put o.dst v') w') : wpList P ops Q (o :: rest) a w :=
 wpList_plain hgd fun _ hK => zii w s x t ho base e i z bytes ht hi hz hsize hby hzs v n xs hs hown A l c hx hr h1 h63 hbytes hbase fun v' w' h2 h3 => hK _ _ (h v' w' h2 h3)
end
theorem zd9 {w : World} {base b' : Nat} {e : TypeId} {v : Value} {n : Nat} {xs : List Value} (h : w.ownsRow base e 1 v n xs) (hb : b' ≤ base) : w.ownsRow b' e 1 v n xs :=
 ⟨h.1, h.2.imp id fun ⟨g, cap, cur, h1, h2, h3⟩ => ⟨g, cap, cur, h1, Nat.le_trans hb h2, h3⟩⟩
theorem zbt (c : UInt8) : (vB c).oneCell' = true := rfl
theorem zmp (c : UInt32) : (vW c).oneCell' = true := rfl
end Go.Proofs.YteljklkgdejhpaaGreatDoor
