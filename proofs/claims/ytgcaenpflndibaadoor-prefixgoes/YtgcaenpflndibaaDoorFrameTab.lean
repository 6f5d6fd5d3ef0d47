/-
  What the arguments of the statements of this seat are, read as data.
  The library's table, as it lies when a call of this seat begins.
-/
import Derived.Test.YtgcaenpflndibaaDoorEliasA
import Derived.WalkKit
import Derived.ProofKit
import Derived.OpenShut
import Derived.ShutString
import Derived.ChangeOld
import Derived.Below
import Derived.Carry
import Derived.Test.YtgcaenpflndibaaDoorTz
import Derived.LaidMore
import Derived.Lib.LaidTab
namespace Go.Proofs.YtgcaenpflndibaaDoor
open Go.ChangeShapes Go.WideShapes Go.ChangeAt Go.RowKit

theorem own : ownKnob Tryd.prog.godebug = none := by kernel_rfl
theorem laidOut : laidOutB Tryd.prog = true := by kernel_rfl
theorem cellsI : Tryd.prog.cellsOf 3 = 1 := by kernel_rfl

section
variable {H : Type} {enc : TypeId × Value → H} {W : World} {d : DataW H} {ps : List MemPlace} {a0 : Option Addr} {len cap : Nat}

/-- A list of ints, as it came in. -/
theorem ints_of (h : DataW.Trod enc Tryd.prog W 0 (fun _ => true) true 22 (.slice a0 len cap) d ps) : ∃ g, ZRd W (.slice a0 len cap) len g ∧ len ≤ 9223372036854775807 := by
  obtain ⟨fuel, hf⟩ := h
  rcases open_ints Tryd.underlying22 Tryd.underlying3 cellsI hf with ⟨hcs, _⟩ | ⟨a, len', cap', zs, hcs, _, hl, hm, hz, _, hcell, hwz⟩
  · simp [Value.cells] at hcs
    obtain ⟨rfl, rfl, rfl⟩ := hcs
    exact ⟨fun _ => 0, .inl ⟨rfl, _, _, rfl⟩, by omega⟩
  · simp [Value.cells] at hcs
    obtain ⟨rfl, rfl, rfl⟩ := hcs
    simp only [if_true] at hz
    have hmx : len ≤ 9223372036854775807 := by unfold maxLen at hm; omega
    by_cases h0 : len = 0
    · subst h0
      exact ⟨fun _ => 0, .inl ⟨rfl, _, _, rfl⟩, by omega⟩
    · obtain ⟨b, off, spot⟩ := a
      have hspot : spot = none := by simpa [Addr.add] using World.cell?_spot (hcell 0 (by omega))
      subst hspot
      refine ⟨fun j => zs.getD j 0, .inr ⟨b, off, cap, rfl, ?_, ?_⟩, hmx⟩
      · exact World.block_lt_of_cell? W _ (hcell 0 (by omega))
      · intro j hj
        have := hcell j (by omega)
        rw [add_plain] at this
        rw [this]
end

end Go.Proofs.YtgcaenpflndibaaDoor

namespace Go.Proofs.YtgcaenpflndibaaDoor
open Go.ChangeShapes Go.WideShapes Go.ChangeAt Go.RowKit

theorem cells5 : Tryd.prog.cellsOf 5 = 1 := by kernel_rfl
theorem gTab : Tryd.prog.globalNamed "math/bits.deBruijn64tab" = some 0 := by kernel_rfl
theorem tTab : (Tryd.prog.globals[0]?).map (·.type) = some 88 := by kernel_rfl
theorem cellsTab : Tryd.prog.cellsOf 88 = 64 := by kernel_rfl

/-- The table's numbers. -/
def tabZ : List Int := Lib.deBruijn64tab.map Int.ofNat
theorem tabZ_at : ∀ i : Fin 64, tabZ.getD i.val 0 = ((Lib.deBruijn64tab.getD i.val 0 : Nat) : Int) := by decide +kernel

theorem tab_of_laid {W : World} (h : laidMetH Tryd.prog [("math/bits.deBruijn64tab", Lib.tabData .u8 tabZ)] W) : TabIn W := by
  rw [MakeChecks.laidMetH_plain _ _ _ (by kernel_rfl)] at h
  have hT := Lib.tabIs_of_head gTab tTab Tryd.underlying88 Tryd.underlying5 cells5 cellsTab h
  intro j hj
  have := hT.cell gTab j hj
  rw [tabZ_at ⟨j, hj⟩] at this
  exact this

theorem door_met (os : Os) (args : Array Value) : laidMetH Tryd.prog [("math/bits.deBruijn64tab", Lib.tabData .u8 tabZ)] ((World.doorLaid Tryd.prog 400 os).forCall (fun _ _ => 0) ⟨#[], args, []⟩).memory :=
  laidMetH_of_parts3 (fuel := 8) (laidMet_of_run' 8 (by kernel_rfl) (by kernel_rfl)) (by kernel_rfl) (by kernel_rfl)

end Go.Proofs.YtgcaenpflndibaaDoor
