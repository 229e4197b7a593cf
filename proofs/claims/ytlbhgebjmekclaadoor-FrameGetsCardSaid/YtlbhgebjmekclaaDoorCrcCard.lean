/-
  What the four cards of layer 5 share: the table, as its own initialiser lays it.
-/
import Derived.Test.YtlbhgebjmekclaaDoorRows
import Derived.Test.YtlbhgebjmekclaaDoorCards
import Derived.Test.YtlbhgebjmekclaaDoorTie
import Derived.Test.YtlbhgebjmekclaaDoorCrcHalf
import Derived.Lib.LaidTab
import Derived.LaidOnce
import Derived.ProofKit
namespace Go.Proofs.YtlbhgebjmekclaaDoor
open Go.RowKit
set_option maxRecDepth 100000

theorem crcOwn : ownKnob Tryd.prog.godebug = none := by kernel_rfl
theorem crcGlobal : Tryd.prog.globalNamed "flitting/crc.halves" = some 0 := by kernel_rfl
theorem crcGlobalType : (Tryd.prog.globals[0]?).map (·.type) = some 95 := by kernel_rfl
theorem crcCellsE : Tryd.prog.cellsOf 43 = 1 := by kernel_rfl
theorem crcCellsT : Tryd.prog.cellsOf 95 = 16 := by kernel_rfl
theorem table_of {W : World} (h : laidMetH Tryd.prog [("flitting/crc.halves", Rows.laid_flitting_crc_halves)] W) : Table W := by
  rw [MakeChecks.laidMetH_plain _ _ _ (by kernel_rfl)] at h
  have hT := Lib.tabIs_of_head (k := .u32) (zs := halvesL.map (fun x : Nat => (x : Int))) crcGlobal crcGlobalType Tryd.underlying95 Tryd.underlying43 crcCellsE crcCellsT h
  intro k x hx
  have hk : k < halvesL.length := (List.getElem?_eq_some_iff.1 hx).1
  have hc := hT.cell crcGlobal k (by rw [List.length_map]; exact hk)
  rw [hc, List.getD_eq_getElem?_getD, List.getElem?_map, hx]; rfl
end Go.Proofs.YtlbhgebjmekclaaDoor
