/-
  What the rows' condition on package-level variables gives the walks: the table of sixty-four constants. Condition: the table reads as the rows list it.
-/
import Derived.Test.YtdokbhcoekffpaaDoorRows
import Derived.Test.YtdokbhcoekffpaaDoorShaBehind
import Derived.Lib.LaidTab
import Derived.MakeChecks
namespace Go.Proofs.YtdokbhcoekffpaaDoor
open Go.RowKit

theorem ktab_of_laid {W : World} (h : laidMetH Tryd.prog [("wristband/sha.constants", Rows.laid_wristband_sha_constants)] W) : KTab W := by
  rw [MakeChecks.laidMetH_plain _ _ _ (by kernel_rfl)] at h
  have e : (Rows.laid_wristband_sha_constants : DataW Unit) = Lib.tabData .u32 (kL.map fun x => (x.toNat : Int)) := by kernel_rfl
  rw [e] at h
  have hT := Lib.tabIs_of_head (P := Tryd.prog) (g := 0) (t := 60) (e := 22) (n := 64) (by kernel_rfl) (by kernel_rfl) Tryd.underlying60 Tryd.underlying22 (by kernel_rfl) (by kernel_rfl) h
  intro i hi
  have h64 : kL.length = 64 := rfl
  have := hT.cell (g := 0) (by kernel_rfl) i (by simp [h64, hi])
  rw [this]
  simp [List.getD, h64, hi]
end Go.Proofs.YtdokbhcoekffpaaDoor
