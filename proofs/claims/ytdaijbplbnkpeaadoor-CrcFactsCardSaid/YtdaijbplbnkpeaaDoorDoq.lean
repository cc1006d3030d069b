/-
  What crc's laws share at their frames: a start in which the table of the halves lies as the program's text lays it. No condition.
-/
import Derived.Test.YtdaijbplbnkpeaaDoorCra
import Derived.ProofKit
import Derived.LaidMore
import Derived.OpenShut
import Derived.ShutString
import Derived.ChangeOld
import Derived.Below
import Derived.Stop.Joined
import Derived.Lib.LaidTab
namespace Go.Proofs.YtdaijbplbnkpeaaDoor
open Go.ChangeShapes Go.WideShapes Go.ChangeAt Go.RowKit

theorem own : ownKnob Tryd.prog.godebug = none := by kernel_rfl
theorem laidOut : laidOutB Tryd.prog = true := by kernel_rfl
/-- The listed variable. -/
def laidL : List (String × DataW Unit) := [("quantum/crc.halves", Rows.laid_quantum_crc_halves)]
/-- The door's own heap meets the condition: three closed facts. -/
theorem door_met (os : Os) (args : Array Value) : laidMetH Tryd.prog laidL ((World.doorLaid Tryd.prog 400 os).forCall (fun _ _ => 0) ⟨#[], args, []⟩).memory :=
  laidMetH_of_parts3 (fuel := 8) (laidMet_of_run' 8 (by kernel_rfl) (by kernel_rfl)) (by kernel_rfl) (by kernel_rfl)
theorem laid_data : (Rows.laid_quantum_crc_halves : DataW Unit) = Lib.tabData .u32 halvesZ := rfl
theorem halves_name : Tryd.prog.globalNamed "quantum/crc.halves" = some 0 := by kernel_rfl
theorem halves_type : (Tryd.prog.globals[0]?).map (·.type) = some 90 := by kernel_rfl
theorem cells_u32 : Tryd.prog.cellsOf 23 = 1 := by kernel_rfl
theorem cells_tab : Tryd.prog.cellsOf 90 = 16 := by kernel_rfl
/-- From the condition to what the walks ask. -/
theorem tab_of {W : World} (h : laidMetH Tryd.prog laidL W) : Tab W := by
  rw [MakeChecks.laidMetH_plain _ _ _ (by kernel_rfl)] at h
  have hT := Lib.tabIs_of_head (k := .u32) (zs := halvesZ) halves_name halves_type Tryd.underlying90 Tryd.underlying23 cells_u32 cells_tab h
  have hc := fun i (hi : i < 16) => hT.cell halves_name i hi
  exact ⟨World.block_lt_of_cell? W _ (hc 0 (by omega)), hc⟩
end Go.Proofs.YtdaijbplbnkpeaaDoor
