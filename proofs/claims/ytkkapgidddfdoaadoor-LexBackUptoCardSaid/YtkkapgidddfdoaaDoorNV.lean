/- What a row's listed variables give where numbers are written. -/
import Derived.Test.YtkkapgidddfdoaaDoorLD
import Derived.Test.YtkkapgidddfdoaaDoorNB
import Derived.Stop.LaidErr
namespace Go.Proofs.YtkkapgidddfdoaaDoor
open Go.RowKit Go.ChangeShapes Go.WideShapes
set_option linter.unusedVariables false

theorem gDb : Tryd.prog.globalNamed "math/bits.deBruijn64tab" = some 5 := by kernel_rfl
theorem gDbType : (Tryd.prog.globals[5]?).map (·.type) = some 118 := by kernel_rfl
theorem gPow : Tryd.prog.globalNamed "internal/strconv.uint64pow10" = some 1 := by kernel_rfl
theorem gPowType : (Tryd.prog.globals[1]?).map (·.type) = some 96 := by kernel_rfl
theorem cells_u8 : Tryd.prog.cellsOf 5 = 1 := by kernel_rfl
theorem cells_u64 : Tryd.prog.cellsOf 59 = 1 := by kernel_rfl
theorem cells_t64 : Tryd.prog.cellsOf 118 = 64 := by kernel_rfl
theorem cells_t20 : Tryd.prog.cellsOf 96 = 20 := by kernel_rfl
theorem nv_of_laid {W : World} (h : laidMetH Tryd.prog laid5 W) : Nv W := by
  have h1 : laidMet Tryd.prog laid5 W := h
  have h2 := h1.tail
  have h3 := h2.tail
  refine ⟨ev_of_laid h, ?_, ?_⟩
  · exact Lib.tabIs_of_head gPow gPowType Tryd.underlying96 Tryd.underlying59 cells_u64 cells_t20 h3
  · exact (Lib.tabIs_of_head (zs := [0, 1, 56, 2, 57, 49, 28, 3, 61, 58, 42, 50, 38, 29, 17, 4, 62, 47, 59, 36, 45, 43, 51, 22, 53, 39, 33, 30, 24, 18, 12, 5, 63, 55, 48, 27, 60, 41, 37, 16, 46, 35, 44, 21, 52, 32, 23, 11, 54, 26, 40, 15, 34, 20, 31, 10, 25, 14, 19, 9, 13, 8, 7, 6]) gDb gDbType Tryd.underlying118 Tryd.underlying5 cells_u8 cells_t64 h2).cell gDb 15 (by decide)
end Go.Proofs.YtkkapgidddfdoaaDoor
