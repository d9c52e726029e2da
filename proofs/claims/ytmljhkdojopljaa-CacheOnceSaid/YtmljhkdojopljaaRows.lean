/-
  No cell of these rows narrows 'for every input' (looked for: loops, veiled, ifaces, maps, wideKeys, modest, calm, conditions, laid).
  DERIVED. THE GIVEN ROWS OF THIS SEAT. 6 by the template 'for every input the law returns true; each argument reads behind the call as it read before'; 0 by the template 'total and deterministic' (their statements: YtmljhkdojopljaaTotals.lean).
  GIVEN WITH THE SEED: the statements are not yours to turn. If you find one false, say at which input.
  Laid BY PROGRAM, IN A SANDBOX (cutbox-rows.mjs): the forced cells as the released guide's own fill.sh prints them over the translation 2c635d1370075566… (all of the seat's roots in one cut). By AI agents, Wed Nov 11 2026. No macro, syntax, notation, axiom, sorry.
-/
import Derived.Test.YtmljhkdojopljaaChecked
import GoSem.Claim
import GoSem.ClaimJoined
import GoSem.ClaimMapViews
import Derived.JoinedTies
import Derived.KernelRfl
namespace Go.Proofs.Ytmljhkdojopljaa
/- THE CELL 'sum', in the pinned program and in every row, IS THE sha256 OF THE DUMP (.gsa) THAT YtmljhkdojopljaaProg.lean LOADS. Nothing in Lean hashes anything: it is a label: what it is worth is what the hold of that sum in a sandbox is worth. -/
noncomputable def Try.pinned : Pinned := { name := "ytmljhkdojopljaa", sum := "2c635d13700755660baf0b5a88705d5a5751fd9559473f0ebe12e4a05f081950", checked := Try.checked }
namespace Rows
def none {H : Type} : Left H := { results := [], args := [] }

/-- 'wristbandlaw19.CacheRight': WHATEVER THE INPUT: true; the input reads as it did. -/
def cacheRightSpec : ChangeSpec := { name := "cacheRight", fn := fun _ => fun
  | [d1, d2, d3, d4] => { results := [.lit (.bool true)], args := [d1, d2, d3, d4] }
  | _ => none }
def cacheRightRow : OpenClaim := { program := "ytmljhkdojopljaa", sum := "2c635d13700755660baf0b5a88705d5a5751fd9559473f0ebe12e4a05f081950", func := "wristband/wristbandlaw19.CacheRight", spec := "cacheRight", inPlace := ["slices.overlaps[wristband/api.Use]"], unfollowed := true, recurses := true, apart := false }
def CacheRightSaid : Prop := cacheRightRow.holds Try.pinned (OpenSpec.ofChange cacheRightSpec)

/-- ITS FALSE NEIGHBOUR: 'it returns false'. Refute it at one input. -/
def cacheRightWrong : ChangeSpec := { name := "cacheRight", fn := fun _ => fun
  | [d1, d2, d3, d4] => { results := [.lit (.bool false)], args := [d1, d2, d3, d4] }
  | _ => none }
def CacheRightWrongFalsely : Prop := cacheRightRow.holds Try.pinned (OpenSpec.ofChange cacheRightWrong)

/-- 'wristbandlaw19.CacheOnce': WHATEVER THE INPUT: true; the input reads as it did. -/
def cacheOnceSpec : ChangeSpec := { name := "cacheOnce", fn := fun _ => fun
  | [d1, d2, d3] => { results := [.lit (.bool true)], args := [d1, d2, d3] }
  | _ => none }
def cacheOnceRow : OpenClaim := { program := "ytmljhkdojopljaa", sum := "2c635d13700755660baf0b5a88705d5a5751fd9559473f0ebe12e4a05f081950", func := "wristband/wristbandlaw19.CacheOnce", spec := "cacheOnce", inPlace := ["slices.overlaps[wristband/api.Use]"], unfollowed := true, recurses := true, apart := false }
def CacheOnceSaid : Prop := cacheOnceRow.holds Try.pinned (OpenSpec.ofChange cacheOnceSpec)

/-- ITS FALSE NEIGHBOUR: 'it returns false'. Refute it at one input. -/
def cacheOnceWrong : ChangeSpec := { name := "cacheOnce", fn := fun _ => fun
  | [d1, d2, d3] => { results := [.lit (.bool false)], args := [d1, d2, d3] }
  | _ => none }
def CacheOnceWrongFalsely : Prop := cacheOnceRow.holds Try.pinned (OpenSpec.ofChange cacheOnceWrong)

/-- 'wristbandlaw19.CacheRaise': WHATEVER THE INPUT: true; the input reads as it did. -/
def cacheRaiseSpec : ChangeSpec := { name := "cacheRaise", fn := fun _ => fun
  | [d1, d2, d3, d4] => { results := [.lit (.bool true)], args := [d1, d2, d3, d4] }
  | _ => none }
def cacheRaiseRow : OpenClaim := { program := "ytmljhkdojopljaa", sum := "2c635d13700755660baf0b5a88705d5a5751fd9559473f0ebe12e4a05f081950", func := "wristband/wristbandlaw19.CacheRaise", spec := "cacheRaise", inPlace := ["slices.overlaps[wristband/api.Use]"], unfollowed := true, recurses := true, apart := false }
def CacheRaiseSaid : Prop := cacheRaiseRow.holds Try.pinned (OpenSpec.ofChange cacheRaiseSpec)

/-- ITS FALSE NEIGHBOUR: 'it returns false'. Refute it at one input. -/
def cacheRaiseWrong : ChangeSpec := { name := "cacheRaise", fn := fun _ => fun
  | [d1, d2, d3, d4] => { results := [.lit (.bool false)], args := [d1, d2, d3, d4] }
  | _ => none }
def CacheRaiseWrongFalsely : Prop := cacheRaiseRow.holds Try.pinned (OpenSpec.ofChange cacheRaiseWrong)

/-- 'wristbandlaw15.GoneRight': WHATEVER THE INPUT: true; the input reads as it did. -/
def goneRightSpec : ChangeSpec := { name := "goneRight", fn := fun _ => fun
  | [d1, d2, d3] => { results := [.lit (.bool true)], args := [d1, d2, d3] }
  | _ => none }
def goneRightRow : OpenClaim := { program := "ytmljhkdojopljaa", sum := "2c635d13700755660baf0b5a88705d5a5751fd9559473f0ebe12e4a05f081950", func := "wristband/wristbandlaw15.GoneRight", spec := "goneRight", unfollowed := true, recurses := true, apart := false }
def GoneRightSaid : Prop := goneRightRow.holds Try.pinned (OpenSpec.ofChange goneRightSpec)

/-- ITS FALSE NEIGHBOUR: 'it returns false'. Refute it at one input. -/
def goneRightWrong : ChangeSpec := { name := "goneRight", fn := fun _ => fun
  | [d1, d2, d3] => { results := [.lit (.bool false)], args := [d1, d2, d3] }
  | _ => none }
def GoneRightWrongFalsely : Prop := goneRightRow.holds Try.pinned (OpenSpec.ofChange goneRightWrong)

/-- 'wristbandlaw15.GoneOnce': WHATEVER THE INPUT: true; the input reads as it did. -/
def goneOnceSpec : ChangeSpec := { name := "goneOnce", fn := fun _ => fun
  | [d1, d2, d3, d4] => { results := [.lit (.bool true)], args := [d1, d2, d3, d4] }
  | _ => none }
def goneOnceRow : OpenClaim := { program := "ytmljhkdojopljaa", sum := "2c635d13700755660baf0b5a88705d5a5751fd9559473f0ebe12e4a05f081950", func := "wristband/wristbandlaw15.GoneOnce", spec := "goneOnce", unfollowed := true, recurses := true, apart := false }
def GoneOnceSaid : Prop := goneOnceRow.holds Try.pinned (OpenSpec.ofChange goneOnceSpec)

/-- ITS FALSE NEIGHBOUR: 'it returns false'. Refute it at one input. -/
def goneOnceWrong : ChangeSpec := { name := "goneOnce", fn := fun _ => fun
  | [d1, d2, d3, d4] => { results := [.lit (.bool false)], args := [d1, d2, d3, d4] }
  | _ => none }
def GoneOnceWrongFalsely : Prop := goneOnceRow.holds Try.pinned (OpenSpec.ofChange goneOnceWrong)

/-- 'wristbandlaw15.GoneBack': WHATEVER THE INPUT: true; the input reads as it did. -/
def goneBackSpec : ChangeSpec := { name := "goneBack", fn := fun _ => fun
  | [d1, d2, d3] => { results := [.lit (.bool true)], args := [d1, d2, d3] }
  | _ => none }
def goneBackRow : OpenClaim := { program := "ytmljhkdojopljaa", sum := "2c635d13700755660baf0b5a88705d5a5751fd9559473f0ebe12e4a05f081950", func := "wristband/wristbandlaw15.GoneBack", spec := "goneBack", unfollowed := true, recurses := true, apart := false }
def GoneBackSaid : Prop := goneBackRow.holds Try.pinned (OpenSpec.ofChange goneBackSpec)

/-- ITS FALSE NEIGHBOUR: 'it returns false'. Refute it at one input. -/
def goneBackWrong : ChangeSpec := { name := "goneBack", fn := fun _ => fun
  | [d1, d2, d3] => { results := [.lit (.bool false)], args := [d1, d2, d3] }
  | _ => none }
def GoneBackWrongFalsely : Prop := goneBackRow.holds Try.pinned (OpenSpec.ofChange goneBackWrong)

/- THE SECOND FORM. 'bulk': how many values and letters a reading holds, each counted each time it is reached (what is shared counts as often as it is met; a slice's spare places count too). A statement '..UptoSaid' is the law's where the arguments, and the package variables that the reading takes, are together of bulk at most 1048576: NARROWER than '..Said'. Prove '..Said' where nothing that the law and all that it calls make is longer than what came in: it says more and counts as full. Else prove '..UptoSaid'. A law counts once. -/
mutual
def uptoBulk {H : Type} : DataW H → Nat
  | .lit (.string bytes) => bytes.length + 1
  | .lit _ => 1
  | .nil => 1
  | .ptr d => uptoBulk d + 1
  | .slice elems spare => uptoBulkAll elems + uptoBulkAll spare + 1
  | .agg parts => uptoBulkAll parts + 1
  | .iface _ d => uptoBulk d + 1
  | .map entries => uptoBulkEntries entries + 1
  | .held _ => 1
def uptoBulkAll {H : Type} : List (DataW H) → Nat
  | [] => 0
  | d :: r => uptoBulk d + uptoBulkAll r
def uptoBulkEntries {H : Type} : List (Lit × DataW H) → Nat
  | [] => 0
  | x :: r => uptoBulkEntry x + uptoBulkEntries r
def uptoBulkEntry {H : Type} : Lit × DataW H → Nat
  | (.string bytes, d) => bytes.length + uptoBulk d + 1
  | (_, d) => uptoBulk d + 1
 end
def uptoSmall : (H : Type) → List (DataW H) → Bool := fun _ ds => decide (uptoBulkAll ds ≤ 1048576)
def OpenSpec.upto (s : _root_.Go.ChangeSpec) : _root_.Go.OpenSpec := { _root_.Go.OpenSpec.ofChange s with cond := some uptoSmall }

/-- 'wristbandlaw19.CacheRight', WHERE WHAT IT READS IS OF BULK AT MOST 1048576: true; the input reads as it did. -/
def cacheRightUptoRow : OpenClaim := { program := "ytmljhkdojopljaa", sum := "2c635d13700755660baf0b5a88705d5a5751fd9559473f0ebe12e4a05f081950", func := "wristband/wristbandlaw19.CacheRight", spec := "cacheRight", inPlace := ["slices.overlaps[wristband/api.Use]"], unfollowed := true, recurses := true, apart := false, narrowed := true }
def CacheRightUptoSaid : Prop := cacheRightUptoRow.holds Try.pinned (OpenSpec.upto cacheRightSpec)

/-- 'wristbandlaw19.CacheOnce', WHERE WHAT IT READS IS OF BULK AT MOST 1048576: true; the input reads as it did. -/
def cacheOnceUptoRow : OpenClaim := { program := "ytmljhkdojopljaa", sum := "2c635d13700755660baf0b5a88705d5a5751fd9559473f0ebe12e4a05f081950", func := "wristband/wristbandlaw19.CacheOnce", spec := "cacheOnce", inPlace := ["slices.overlaps[wristband/api.Use]"], unfollowed := true, recurses := true, apart := false, narrowed := true }
def CacheOnceUptoSaid : Prop := cacheOnceUptoRow.holds Try.pinned (OpenSpec.upto cacheOnceSpec)

/-- 'wristbandlaw19.CacheRaise', WHERE WHAT IT READS IS OF BULK AT MOST 1048576: true; the input reads as it did. -/
def cacheRaiseUptoRow : OpenClaim := { program := "ytmljhkdojopljaa", sum := "2c635d13700755660baf0b5a88705d5a5751fd9559473f0ebe12e4a05f081950", func := "wristband/wristbandlaw19.CacheRaise", spec := "cacheRaise", inPlace := ["slices.overlaps[wristband/api.Use]"], unfollowed := true, recurses := true, apart := false, narrowed := true }
def CacheRaiseUptoSaid : Prop := cacheRaiseUptoRow.holds Try.pinned (OpenSpec.upto cacheRaiseSpec)

/-- 'wristbandlaw15.GoneRight', WHERE WHAT IT READS IS OF BULK AT MOST 1048576: true; the input reads as it did. -/
def goneRightUptoRow : OpenClaim := { program := "ytmljhkdojopljaa", sum := "2c635d13700755660baf0b5a88705d5a5751fd9559473f0ebe12e4a05f081950", func := "wristband/wristbandlaw15.GoneRight", spec := "goneRight", unfollowed := true, recurses := true, apart := false, narrowed := true }
def GoneRightUptoSaid : Prop := goneRightUptoRow.holds Try.pinned (OpenSpec.upto goneRightSpec)

/-- 'wristbandlaw15.GoneOnce', WHERE WHAT IT READS IS OF BULK AT MOST 1048576: true; the input reads as it did. -/
def goneOnceUptoRow : OpenClaim := { program := "ytmljhkdojopljaa", sum := "2c635d13700755660baf0b5a88705d5a5751fd9559473f0ebe12e4a05f081950", func := "wristband/wristbandlaw15.GoneOnce", spec := "goneOnce", unfollowed := true, recurses := true, apart := false, narrowed := true }
def GoneOnceUptoSaid : Prop := goneOnceUptoRow.holds Try.pinned (OpenSpec.upto goneOnceSpec)

/-- 'wristbandlaw15.GoneBack', WHERE WHAT IT READS IS OF BULK AT MOST 1048576: true; the input reads as it did. -/
def goneBackUptoRow : OpenClaim := { program := "ytmljhkdojopljaa", sum := "2c635d13700755660baf0b5a88705d5a5751fd9559473f0ebe12e4a05f081950", func := "wristband/wristbandlaw15.GoneBack", spec := "goneBack", unfollowed := true, recurses := true, apart := false, narrowed := true }
def GoneBackUptoSaid : Prop := goneBackUptoRow.holds Try.pinned (OpenSpec.upto goneBackSpec)

end Rows
end Go.Proofs.Ytmljhkdojopljaa
