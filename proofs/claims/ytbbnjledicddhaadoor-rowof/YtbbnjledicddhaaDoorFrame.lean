/-
  What the arguments of the four statements of this seat are, read as data; the library's table.
-/
import Derived.Test.YtbbnjledicddhaaDoorLawB
import Derived.Test.YtbbnjledicddhaaDoorLawC
import Derived.WalkKit
import Derived.ProofKit
import Derived.OpenShut
import Derived.LaidMore
import Derived.Lib.LaidTab
import Derived.Deep.SlicePairs
import Derived.Carry
namespace Go.Proofs.YtbbnjledicddhaaDoor
open Go.ChangeShapes Go.WideShapes Go.ChangeAt Go.RowKit

theorem own : ownKnob Tryd.prog.godebug = none := by kernel_rfl
theorem laidOut : laidOutB Tryd.prog = true := by kernel_rfl
theorem gTab : Tryd.prog.globalNamed "math/bits.deBruijn64tab" = some 0 := by kernel_rfl
theorem tTab : (Tryd.prog.globals[0]?).map (·.type) = some 64 := by kernel_rfl
theorem cells5 : Tryd.prog.cellsOf 5 = 1 := by kernel_rfl
theorem cells64 : Tryd.prog.cellsOf 64 = 64 := by kernel_rfl
theorem cells36 : Tryd.prog.cellsOf 36 = 1 := by kernel_rfl
theorem cells3 : Tryd.prog.cellsOf 3 = 1 := by kernel_rfl
theorem cells54 : Tryd.prog.cellsOf 54 = 2 := by kernel_rfl

/-- The table's numbers. -/
def tabZ : List Int := Lib.deBruijn64tab.map Int.ofNat
theorem tabZ_at : ∀ i : Fin 64, tabZ.getD i.val 0 = ((Lib.deBruijn64tab.getD i.val 0 : Nat) : Int) := by decide +kernel

theorem tab_of_laid {W : World} (h : laidMetH Tryd.prog [("math/bits.deBruijn64tab", Lib.tabData .u8 tabZ)] W) : TabIn W := by
  rw [MakeChecks.laidMetH_plain _ _ _ (by kernel_rfl)] at h
  have hT := Lib.tabIs_of_head gTab tTab Tryd.underlying64 Tryd.underlying5 cells5 cells64 h
  intro j hj
  have := hT.cell gTab j hj
  rw [tabZ_at ⟨j, hj⟩] at this
  exact this

theorem door_met (os : Os) (args : Array Value) : laidMetH Tryd.prog [("math/bits.deBruijn64tab", Lib.tabData .u8 tabZ)] ((World.doorLaid Tryd.prog 400 os).forCall (fun _ _ => 0) ⟨#[], args, []⟩).memory :=
  laidMetH_of_parts3 (fuel := 8) (laidMet_of_run' 8 (by kernel_rfl) (by kernel_rfl)) (by kernel_rfl) (by kernel_rfl)

section
variable {H : Type} {enc : TypeId × Value → H} {W : World} {d : DataW H} {ps : List MemPlace} {a0 : Option Addr} {len cap : Nat}

/-- A list of parts, as it came in. -/
theorem parts_of (h : DataW.Trod enc Tryd.prog W 0 (fun _ => true) true 22 (.slice a0 len cap) d ps) : ∃ pW pN, PRd W (.slice a0 len cap) len pW pN ∧ len ≤ 9223372036854775807 := by
  obtain ⟨fuel, hf⟩ := h
  rcases Deep.open_slice_pairs Tryd.underlying22 Tryd.underlying54 cells54 rfl rfl cells36 cells3 hf with ⟨hcs, _⟩ | ⟨a, len', cap', m, n, V0, V1, D0, D1, P0, P1, hcs, _, hl, hm, hmm, _, hcell⟩
  · simp [Value.cells] at hcs
    obtain ⟨rfl, rfl, rfl⟩ := hcs
    exact ⟨fun _ => 0, fun _ => 0, .inl ⟨rfl, _, _, rfl⟩, by omega⟩
  · simp [Value.cells] at hcs
    obtain ⟨rfl, rfl, rfl⟩ := hcs
    simp only [if_true] at hmm
    have hmx : len ≤ 9223372036854775807 := by unfold maxLen at hm; omega
    by_cases h0 : len = 0
    · subst h0
      exact ⟨fun _ => 0, fun _ => 0, .inl ⟨rfl, _, _, rfl⟩, by omega⟩
    · obtain ⟨b, off, spot⟩ := a
      have hspot : spot = none := by simpa [Addr.add] using World.cell?_spot (hcell 0 (by omega)).1
      subst hspot
      refine ⟨fun j => match V0 j with | .int _ z => z.toNat | _ => 0, fun j => match V1 j with | .int _ z => z | _ => 0, .inr ⟨b, off, cap, rfl, ?_, ?_⟩, hmx⟩
      · exact World.block_lt_of_cell? W _ (hcell 0 (by omega)).1
      · intro j hj
        obtain ⟨k0, k1, t0, t1⟩ := hcell j (by omega)
        obtain ⟨z0, e0, _, w0⟩ := DataW.trod_int Tryd.underlying36 t0
        obtain ⟨z1, e1, _, w1⟩ := DataW.trod_int Tryd.underlying3 t1
        simp only [List.cons.injEq, and_true] at e0 e1
        have b0 := bounds_u64 w0
        rw [add_plain, e0] at k0
        rw [add_plain, e1] at k1
        rw [← Nat.add_assoc] at k1
        simp only [e0, e1]
        refine ⟨?_, k1, by omega⟩
        rw [k0]
        simp
        omega

/-- A list of words, as it came in. -/
theorem words_of (h : DataW.Trod enc Tryd.prog W 0 (fun _ => true) true 30 (.slice a0 len cap) d ps) : ∃ f, Rd W (.slice a0 len cap) len f ∧ (∀ j, j < len → f j < 18446744073709551616) ∧ len ≤ 9223372036854775807 := by
  obtain ⟨fuel, hf⟩ := h
  rcases open_ints Tryd.underlying30 Tryd.underlying36 cells36 hf with ⟨hcs, _⟩ | ⟨a, len', cap', zs, hcs, _, hl, hm, hz, _, hcell, hwz⟩
  · simp [Value.cells] at hcs
    obtain ⟨rfl, rfl, rfl⟩ := hcs
    exact ⟨fun _ => 0, .inl ⟨rfl, _, _, rfl⟩, fun _ _ => by show 0 < _; decide, by omega⟩
  · simp [Value.cells] at hcs
    obtain ⟨rfl, rfl, rfl⟩ := hcs
    simp only [if_true] at hz
    have hmx : len ≤ 9223372036854775807 := by unfold maxLen at hm; omega
    by_cases h0 : len = 0
    · subst h0
      exact ⟨fun _ => 0, .inl ⟨rfl, _, _, rfl⟩, fun _ _ => by show 0 < _; decide, by omega⟩
    · obtain ⟨b, off, spot⟩ := a
      have hspot : spot = none := by simpa [Addr.add] using World.cell?_spot (hcell 0 (by omega))
      subst hspot
      have hb : ∀ j, j < len → 0 ≤ zs.getD j 0 ∧ zs.getD j 0 ≤ 18446744073709551615 := fun j hj => by
        have := range_u64 hwz j
        simpa [List.getD] using this
      refine ⟨fun j => (zs.getD j 0).toNat, .inr ⟨b, off, cap, rfl, ?_, ?_⟩, fun j hj => by have := hb j hj; show (zs.getD j 0).toNat < _; omega, hmx⟩
      · exact World.block_lt_of_cell? W _ (hcell 0 (by omega))
      · intro j hj
        have := hcell j (by omega)
        rw [add_plain] at this
        rw [this]
        have := hb j hj
        simp only [Option.some.injEq, Value.int.injEq, true_and]
        omega
end

end Go.Proofs.YtbbnjledicddhaaDoor
