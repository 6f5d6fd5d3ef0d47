/-
  The library's table, as it lies when a call of this seat begins.
-/
import Derived.Test.YtbjgbigalfhnjaaGreatDoorEliasFrame
import Derived.Test.YtbjgbigalfhnjaaGreatDoorSet03
import Derived.LaidMore
import Derived.Lib.LaidTab
namespace Go.Proofs.YtbjgbigalfhnjaaGreatDoor
open Go.ChangeShapes Go.WideShapes Go.ChangeAt Go.RowKit

theorem cells5 : Tryz.prog.cellsOf 5 = 1 := by kernel_rfl
theorem gTab : Tryz.prog.globalNamed "math/bits.deBruijn64tab" = some 0 := by kernel_rfl
theorem tTab : (Tryz.prog.globals[0]?).map (·.type) = some 139 := by kernel_rfl
theorem cellsTab : Tryz.prog.cellsOf 139 = 64 := by kernel_rfl

/-- The table's numbers. -/
def tabZ : List Int := Lib.deBruijn64tab.map Int.ofNat
theorem tabZ_at : ∀ i : Fin 64, tabZ.getD i.val 0 = ((Lib.deBruijn64tab.getD i.val 0 : Nat) : Int) := by decide +kernel

theorem tab_of_laid {W : World} (h : laidMetH Tryz.prog [("math/bits.deBruijn64tab", Lib.tabData .u8 tabZ)] W) : TabIn W := by
  rw [MakeChecks.laidMetH_plain _ _ _ (by kernel_rfl)] at h
  have hT := Lib.tabIs_of_head gTab tTab Tryz.underlying139 Tryz.underlying5 cells5 cellsTab h
  intro j hj
  have := hT.cell gTab j hj
  rw [tabZ_at ⟨j, hj⟩] at this
  exact this

theorem door_met (os : Os) (args : Array Value) : laidMetH Tryz.prog [("math/bits.deBruijn64tab", Lib.tabData .u8 tabZ)] ((World.doorLaid Tryz.prog 400 os).forCall (fun _ _ => 0) ⟨#[], args, []⟩).memory :=
  laidMetH_of_parts3 (fuel := 8) (laidMet_of_run' 8 (by kernel_rfl) (by kernel_rfl)) (by kernel_rfl) (by kernel_rfl)

end Go.Proofs.YtbjgbigalfhnjaaGreatDoor
