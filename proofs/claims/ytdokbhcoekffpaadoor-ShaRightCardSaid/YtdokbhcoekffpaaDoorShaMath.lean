/-
  SHA-256 as plain functions on words and bytes, and what the program's operations on words are in their terms (no program is named here). No conditions but those typed.
-/
import Derived.Test.YtdokbhcoekffpaaDoorWordMath
import Derived.Test.YtdokbhcoekffpaaDoorWordNums
namespace Go.Proofs.YtdokbhcoekffpaaDoor
open Go.RowKit

/-! ### The operations on words, as the walk spells them (each behind a name of its own: 'simp' would take 'toNat' apart) -/
def xorW (x y : UInt32) : UInt32 := x ^^^ y
def andW (x y : UInt32) : UInt32 := x &&& y
def orW (x y : UInt32) : UInt32 := x ||| y
def addW (x y : UInt32) : UInt32 := x + y
def notW (x : UInt32) : UInt32 := ~~~x
theorem u32_xor_w (x y : UInt32) : bits .xor .u32 (x.toNat : Int) (y.toNat : Int) = ((xorW x y).toNat : Int) := by
  rw [u32_xor_nat _ _ (u32_lt x) (u32_lt y)]
  rfl
theorem u32_and_w (x y : UInt32) : bits .and .u32 (x.toNat : Int) (y.toNat : Int) = ((andW x y).toNat : Int) := by
  rw [u32_and_nat _ _ (u32_lt x) (u32_lt y)]
  rfl
theorem u32_or_w (x y : UInt32) : bits .or .u32 (x.toNat : Int) (y.toNat : Int) = ((orW x y).toNat : Int) := by
  rw [u32_or_nat _ _ (u32_lt x) (u32_lt y)]
  rfl
theorem addW_toNat (x y : UInt32) : (addW x y).toNat = (x.toNat + y.toNat) % 4294967296 := UInt32.toNat_add x y
theorem u32_add_w (x y : UInt32) : IntKind.u32.wrap ((x.toNat : Int) + (y.toNat : Int)) = ((addW x y).toNat : Int) := by
  rw [IntKind.wrap_u32', addW_toNat]
  omega
theorem u32_add_m (x y : UInt32) : ((x.toNat : Int) + (y.toNat : Int)) % 4294967296 = ((addW x y).toNat : Int) := by
  rw [addW_toNat]
  omega
theorem u32_not_w (x : UInt32) : 4294967295 - (x.toNat : Int) = ((notW x).toNat : Int) := by
  have hx := u32_lt x
  have : (notW x).toNat = 4294967295 - x.toNat := by
    show (~~~x.toBitVec).toNat = _
    rw [BitVec.toNat_not]
    rfl
  rw [this]
  omega
theorem u32_not_ww (x : UInt32) : IntKind.u32.wrap (4294967295 - (x.toNat : Int)) = ((notW x).toNat : Int) := by
  rw [← u32_not_w, IntKind.wrap_u32']
  have hx := u32_lt x
  omega

theorem u32_mod_w (x : UInt32) : (x.toNat : Int) % 4294967296 = (x.toNat : Int) := by
  have hx := u32_lt x
  omega
theorem u32_wrap_w (x : UInt32) : IntKind.u32.wrap (x.toNat : Int) = (x.toNat : Int) := by
  rw [IntKind.wrap_u32']
  exact u32_mod_w x

/-- A word moved down. -/
def dn (x : UInt32) (k : Nat) : UInt32 := UInt32.ofNat (x.toNat / 2 ^ k)
theorem dn_toNat (x : UInt32) (k : Nat) : (dn x k).toNat = x.toNat / 2 ^ k := by
  have hx := u32_lt x
  have h : x.toNat / 2 ^ k ≤ x.toNat := Nat.div_le_self _ _
  rw [dn, UInt32.toNat_ofNat']
  exact Nat.mod_eq_of_lt (by omega)
theorem dn_zero (x : UInt32) : dn x 0 = x := UInt32.toNat_inj.1 (by rw [dn_toNat]; simp)
theorem dn_succ (x : UInt32) (k : Nat) : (dn x (k + 1)).toNat = (dn x k).toNat / 2 := by
  rw [dn_toNat, dn_toNat, Nat.pow_succ, Nat.div_div_eq_div_mul]

/-! ### SHA-256 -/
def kL : List UInt32 := [1116352408, 1899447441, 3049323471, 3921009573, 961987163, 1508970993, 2453635748, 2870763221, 3624381080, 310598401, 607225278, 1426881987, 1925078388, 2162078206, 2614888103, 3248222580, 3835390401, 4022224774, 264347078, 604807628, 770255983, 1249150122, 1555081692, 1996064986, 2554220882, 2821834349, 2952996808, 3210313671, 3336571891, 3584528711, 113926993, 338241895, 666307205, 773529912, 1294757372, 1396182291, 1695183700, 1986661051, 2177026350, 2456956037, 2730485921, 2820302411, 3259730800, 3345764771, 3516065817, 3600352804, 4094571909, 275423344, 430227734, 506948616, 659060556, 883997877, 958139571, 1322822218, 1537002063, 1747873779, 1955562222, 2024104815, 2227730452, 2361852424, 2428436474, 2756734187, 3204031479, 3329325298]
def firstL : List UInt32 := [1779033703, 3144134277, 1013904242, 2773480762, 1359893119, 2600822924, 528734635, 1541459225]
def sig0 (x : UInt32) : UInt32 := xorW (xorW (rotR x 7) (rotR x 18)) (dn x 3)
def sig1 (x : UInt32) : UInt32 := xorW (xorW (rotR x 17) (rotR x 19)) (dn x 10)
def Sig0 (x : UInt32) : UInt32 := xorW (xorW (rotR x 2) (rotR x 13)) (rotR x 22)
def Sig1 (x : UInt32) : UInt32 := xorW (xorW (rotR x 6) (rotR x 11)) (rotR x 25)
def chW (e f g : UInt32) : UInt32 := orW (andW e f) (andW (notW e) g)
def majW (a b c : UInt32) : UInt32 := orW (orW (andW a b) (andW a c)) (andW b c)
/-- One word more behind those that are there. -/
def nextW (l : List UInt32) : UInt32 := addW (addW (addW (sig1 (l.getD (l.length - 2) 0)) (l.getD (l.length - 7) 0)) (sig0 (l.getD (l.length - 15) 0))) (l.getD (l.length - 16) 0)
def moreW : Nat → List UInt32 → List UInt32
  | 0, l => l
  | n + 1, l => moreW n l ++ [nextW (moreW n l)]
theorem moreW_length (n : Nat) (l : List UInt32) : (moreW n l).length = l.length + n := by
  induction n with
  | zero => rfl
  | succ n ih => rw [moreW, List.length_append, ih]; rfl

structure St where
  a : UInt32
  b : UInt32
  c : UInt32
  d : UInt32
  e : UInt32
  f : UInt32
  g : UInt32
  h : UInt32
def St.toL (s : St) : List UInt32 := [s.a, s.b, s.c, s.d, s.e, s.f, s.g, s.h]
def tW (s : St) (k w : UInt32) : UInt32 := addW (addW (addW (addW s.h (Sig1 s.e)) (chW s.e s.f s.g)) k) w
def uW (s : St) : UInt32 := addW (Sig0 s.a) (majW s.a s.b s.c)
def St.round (s : St) (k w : UInt32) : St := ⟨addW (tW s k w) (uW s), s.a, s.b, s.c, addW s.d (tW s k w), s.e, s.f, s.g⟩
def St.rounds (l : List UInt32) : Nat → St → St
  | 0, s => s
  | n + 1, s => (St.rounds l n s).round (kL.getD n 0) (l.getD n 0)
def St.plus (s t : St) : St := ⟨addW s.a t.a, addW s.b t.b, addW s.c t.c, addW s.d t.d, addW s.e t.e, addW s.f t.f, addW s.g t.g, addW s.h t.h⟩
/-- The state behind a block of 64 bytes. -/
def St.block (s : St) (b : List UInt8) : St := s.plus (St.rounds (moreW 48 (wordsL b)) 64 s)
/-- The state behind the whole blocks of some bytes. -/
def St.from (s : St) (b : List UInt8) : St := if 64 ≤ b.length then St.from (s.block (b.take 64)) (b.drop 64) else s
termination_by b.length
decreasing_by simp; omega
def fillL (b : List UInt8) (many : Nat) : List UInt8 := b ++ 128 :: List.replicate ((119 - b.length % 64) % 64) 0 ++ putL (8 * many % 18446744073709551616)
def startSt : St := ⟨1779033703, 3144134277, 1013904242, 2773480762, 1359893119, 2600822924, 528734635, 1541459225⟩
def sumL (b : List UInt8) : List UInt8 := bytesL (startSt.from (fillL b b.length)).toL

end Go.Proofs.YtdokbhcoekffpaaDoor
