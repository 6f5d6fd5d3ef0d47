/-
  What the arguments of the statements of this seat are, read as data.
-/
import Derived.Test.YtbfolfacppbalaaDoorEliasTab
import Derived.Test.YtbfolfacppbalaaDoorRowDoc
import Derived.WalkKit
import Derived.ProofKit
import Derived.OpenShut
import Derived.ShutString
import Derived.ChangeOld
import Derived.Below
import Derived.Carry
namespace Go.Proofs.YtbfolfacppbalaaDoor
open Go.ChangeShapes Go.WideShapes Go.ChangeAt Go.RowKit

theorem cells31 : Tryd.prog.cellsOf 77 = 1 := by kernel_rfl

section
variable {H : Type} {enc : TypeId × Value → H} {W : World} {d : DataW H} {ps : List MemPlace} {a0 : Option Addr} {len cap : Nat}

/-- A list of words, as it came in. -/
theorem words_of (h : DataW.Trod enc Tryd.prog W 0 (fun _ => true) true 47 (.slice a0 len cap) d ps) : ∃ f, Rd W (.slice a0 len cap) len f ∧ (∀ j, j < len → f j < 18446744073709551616) ∧ len ≤ 9223372036854775807 := by
  obtain ⟨fuel, hf⟩ := h
  rcases open_ints Tryd.underlying47 Tryd.underlying77 cells31 hf with ⟨hcs, _⟩ | ⟨a, len', cap', zs, hcs, _, hl, hm, hz, _, hcell, hwz⟩
  · simp [Value.cells] at hcs
    obtain ⟨rfl, rfl, rfl⟩ := hcs
    exact ⟨fun _ => 0, .inl ⟨rfl, _, _, rfl⟩, fun _ _ => by show 0 < _; decide, by omega⟩
  · simp [Value.cells] at hcs
    obtain ⟨rfl, rfl, rfl⟩ := hcs
    simp only [if_true] at hz
    have hmx : len ≤ 9223372036854775807 := by unfold maxLen at hm; omega
    by_cases h0 : len = 0
    · subst h0
      exact ⟨fun _ => 0, .inl ⟨rfl, _, _, rfl⟩, fun _ _ => by show 0 < _; decide, by omega⟩
    · obtain ⟨b, off, spot⟩ := a
      have hspot : spot = none := by simpa [Addr.add] using World.cell?_spot (hcell 0 (by omega))
      subst hspot
      have hb : ∀ j, j < len → 0 ≤ zs.getD j 0 ∧ zs.getD j 0 ≤ 18446744073709551615 := fun j hj => by
        have := range_u64 hwz j
        simpa [List.getD] using this
      refine ⟨fun j => (zs.getD j 0).toNat, .inr ⟨b, off, cap, rfl, ?_, ?_⟩, fun j hj => by have := hb j hj; show (zs.getD j 0).toNat < _; omega, hmx⟩
      · exact World.block_lt_of_cell? W _ (hcell 0 (by omega))
      · intro j hj
        have := hcell j (by omega)
        rw [add_plain] at this
        rw [this]
        have := hb j hj
        simp only [Option.some.injEq, Value.int.injEq, true_and]
        omega
end

end Go.Proofs.YtbfolfacppbalaaDoor
