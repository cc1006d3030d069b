/-
  From the condition that the listed variable of the library lies as the program's text lays it to what the walks ask.
-/
import Derived.Test.YtcdjfgkjllonhaaDoorDors
import Derived.Test.YtcdjfgkjllonhaaDoorBza
import Derived.Lib.LaidTab
namespace Go.Proofs.YtcdjfgkjllonhaaDoor
open Go.ChangeShapes Go.WideShapes Go.ChangeAt Go.RowKit

theorem laid_data : (Rows.laid_math_bits_deBruijn64tab : DataW Unit) = Lib.tabData .u8 (Lib.deBruijn64tab.map fun x : Nat => (x : Int)) := rfl
theorem tab_name : Tryd.prog.globalNamed "math/bits.deBruijn64tab" = some 0 := by kernel_rfl
theorem tab_type : (Tryd.prog.globals[0]?).map (·.type) = some 102 := by kernel_rfl
theorem cells_u8 : Tryd.prog.cellsOf 5 = 1 := by kernel_rfl
theorem cells_tab : Tryd.prog.cellsOf 102 = 64 := by kernel_rfl
theorem tab_vals : ∀ i, i < 64 → (Lib.deBruijn64tab.map fun x : Nat => (x : Int)).getD i 0 = ((Lib.deBruijn64tab.getD i 0 : Nat) : Int) := by decide +kernel
/-- From the condition to what the walks ask. -/
theorem tab_of {W : World} (h : laidMetH Tryd.prog laidL W) : Tbz W := by
  rw [MakeChecks.laidMetH_plain _ _ _ (by kernel_rfl)] at h
  have hT := Lib.tabIs_of_head (k := .u8) (zs := Lib.deBruijn64tab.map fun x : Nat => (x : Int)) tab_name tab_type Tryd.underlying102 Tryd.underlying5 cells_u8 cells_tab h
  have hc := fun i (hi : i < 64) => hT.cell tab_name i hi
  refine ⟨World.block_lt_of_cell? W _ (hc 0 (by omega)), fun i hi => ?_⟩
  rw [← tab_vals i hi]
  exact hc i hi
end Go.Proofs.YtcdjfgkjllonhaaDoor
