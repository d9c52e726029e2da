/-
  The parameters of layer 2's statements, opened: a state as an array, bytes, a hash that goes on, lists of bytes.
-/
import Derived.Test.YtdokbhcoekffpaaDoorShaLaw
import Derived.Test.YtdokbhcoekffpaaDoorOpen
namespace Go.Proofs.YtdokbhcoekffpaaDoor
open Go.RowKit Go.WideShapes

theorem opens_state : Opens Tryd.prog 23 (RArr 8 RWord) := opens_arr Tryd.underlying23 (by kernel_rfl) (by kernel_rfl) (opens_word Tryd.underlying22)
theorem opens_bytes : Opens Tryd.prog 24 (RSlice 1 RByte) := opens_slice Tryd.underlying24 (by kernel_rfl) (by omega) (opens_byte Tryd.underlying5)
theorem opens_u64 : Opens Tryd.prog 25 RNum := opens_num Tryd.underlying25

theorem opens_hash : Opens Tryd.prog 27 (RThree 0 8 8 1 9 1 (RArr 8 RWord) (RSlice 1 RByte) RNum) :=
  opens_three Tryd.underlying27 rfl rfl rfl (by kernel_rfl) (by kernel_rfl) (by kernel_rfl) (by kernel_rfl) opens_state opens_bytes opens_u64
theorem opens_lists : Opens Tryd.prog 64 (RSlice 1 (RSlice 1 RByte)) := opens_slice Tryd.underlying64 (by kernel_rfl) (by omega) opens_bytes

/-- Eight words are a state. -/
theorem st_of_list {l : List UInt32} (h : l.length = 8) : ∃ s : St, l = s.toL := by
  match l, h with
  | [a, b, c, d, e, f, g, h], _ => exact ⟨⟨a, b, c, d, e, f, g, h⟩, rfl⟩

section
variable {H : Type} {enc : TypeId × Value → H} {W : World} {base b1 : Nat} {spare : Nat → Bool} {held : Bool} {r : Reach} {v : Value} {d : DataW H} {p : List MemPlace}
theorem open_state (hv : Value.okWide Tryd.prog W r base 23 v) (ht : DataW.Trod enc Tryd.prog W b1 spare held 23 v d p) : ∃ s : St, v = .agg #[.int .u32 (s.a.toNat : Int), .int .u32 (s.b.toNat : Int), .int .u32 (s.c.toNat : Int), .int .u32 (s.d.toNat : Int), .int .u32 (s.e.toNat : Int), .int .u32 (s.f.toNat : Int), .int .u32 (s.g.toNat : Int), .int .u32 (s.h.toNat : Int)] := by
  obtain ⟨cs, rfl, _⟩ := okWide_arr Tryd.underlying23 hv
  obtain ⟨fuel, hf⟩ := ht
  obtain ⟨l, hl⟩ := opens_state enc W _ _ _ _ _ _ hf
  obtain ⟨e, h8⟩ := arr_words hl
  obtain ⟨s, rfl⟩ := st_of_list h8
  refine ⟨s, ?_⟩
  congr 1
  apply Array.toList_inj.1
  exact e
theorem open_bytes (hv : Value.okWide Tryd.prog W r base 24 v) (ht : DataW.Trod enc Tryd.prog W b1 spare held 24 v d p) : ∃ (l : List UInt8) (A : Option Addr) (cap : Nat), v = .slice A l.length cap ∧ l.length ≤ cap ∧ cap ≤ 9223372036854775807 ∧ Rd vB W A l := by
  obtain ⟨a, len, cap, rfl⟩ := okWide_slice Tryd.underlying24 hv
  obtain ⟨fuel, hf⟩ := ht
  obtain ⟨l, hl⟩ := opens_bytes enc W _ _ _ _ _ _ hf
  obtain ⟨A, c, e, h1, h2, h3⟩ := bytes_of_r hl
  simp [Value.cells] at e
  obtain ⟨rfl, rfl, rfl⟩ := e
  exact ⟨l, _, _, rfl, h1, h2, h3⟩
theorem list_3 {cs : List Value} {l0 l1 l2 : List Value} (hn : cs.length = 10) (h0 : (cs.drop 0).take 8 = l0) (h1 : (cs.drop 8).take 1 = l1) (h2 : (cs.drop 9).take 1 = l2) : cs = l0 ++ l1 ++ l2 := by
  subst h0 h1 h2
  match cs, hn with
  | [_, _, _, _, _, _, _, _, _, _], _ => rfl
theorem open_hash (hv : Value.okWide Tryd.prog W r base 27 v) (ht : DataW.Trod enc Tryd.prog W b1 spare held 27 v d p) : ∃ (s : St) (l : List UInt8) (A : Option Addr) (cap many : Nat),
    v = .agg #[.int .u32 (s.a.toNat : Int), .int .u32 (s.b.toNat : Int), .int .u32 (s.c.toNat : Int), .int .u32 (s.d.toNat : Int), .int .u32 (s.e.toNat : Int), .int .u32 (s.f.toNat : Int), .int .u32 (s.g.toNat : Int), .int .u32 (s.h.toNat : Int), .slice A l.length cap, .int .u64 (many : Int)] ∧
    l.length ≤ cap ∧ cap ≤ 9223372036854775807 ∧ many < 18446744073709551616 ∧ Rd vB W A l := by
  obtain ⟨cs, rfl, _⟩ := okWide_struct Tryd.underlying27 hv
  obtain ⟨fuel, hf⟩ := ht
  obtain ⟨⟨ws, l, many⟩, hn, h0, h1, h2, hm⟩ := opens_hash enc W _ _ _ _ _ _ hf
  obtain ⟨e0, h8⟩ := arr_words h0
  obtain ⟨s, hs⟩ := st_of_list h8
  obtain ⟨A, cap, e1, h3, h4, h5⟩ := bytes_of_r h1
  refine ⟨s, l, A, cap, many, ?_, h3, h4, hm, h5⟩
  congr 1
  apply Array.toList_inj.1
  have := list_3 hn e0 e1 h2
  rw [hs] at this
  exact this
end

end Go.Proofs.YtdokbhcoekffpaaDoor
