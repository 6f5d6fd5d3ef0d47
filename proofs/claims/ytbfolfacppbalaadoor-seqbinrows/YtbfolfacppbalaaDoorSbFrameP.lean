/-
  A list of parts among the arguments, read as data.
-/
import Derived.Test.YtbfolfacppbalaaDoorEliasTab
import Derived.Test.YtbfolfacppbalaaDoorBuilt
import Derived.Deep.SlicePairs
import Derived.Carry
namespace Go.Proofs.YtbfolfacppbalaaDoor
open Go.ChangeShapes Go.WideShapes Go.ChangeAt Go.RowKit

theorem cellsU64 : Tryd.prog.cellsOf 77 = 1 := by kernel_rfl
theorem cellsInt : Tryd.prog.cellsOf 3 = 1 := by kernel_rfl
theorem cellsPart : Tryd.prog.cellsOf 79 = 2 := by kernel_rfl

section
variable {H : Type} {enc : TypeId × Value → H} {W : World} {d : DataW H} {ps : List MemPlace} {a0 : Option Addr} {len cap : Nat}

/-- A list of parts, as it came in. -/
theorem parts_of (h : DataW.Trod enc Tryd.prog W 0 (fun _ => true) true 22 (.slice a0 len cap) d ps) : ∃ pW pN, PRd W (.slice a0 len cap) len pW pN ∧ len ≤ 9223372036854775807 := by
  obtain ⟨fuel, hf⟩ := h
  rcases Deep.open_slice_pairs Tryd.underlying22 Tryd.underlying79 cellsPart rfl rfl cellsU64 cellsInt hf with ⟨hcs, _⟩ | ⟨a, len', cap', m, n, V0, V1, D0, D1, P0, P1, hcs, _, hl, hm, hmm, _, hcell⟩
  · simp [Value.cells] at hcs
    obtain ⟨rfl, rfl, rfl⟩ := hcs
    exact ⟨fun _ => 0, fun _ => 0, .inl ⟨rfl, _, _, rfl⟩, by omega⟩
  · simp [Value.cells] at hcs
    obtain ⟨rfl, rfl, rfl⟩ := hcs
    simp only [if_true] at hmm
    have hmx : len ≤ 9223372036854775807 := by unfold maxLen at hm; omega
    by_cases h0 : len = 0
    · subst h0
      exact ⟨fun _ => 0, fun _ => 0, .inl ⟨rfl, _, _, rfl⟩, by omega⟩
    · obtain ⟨b, off, spot⟩ := a
      have hspot : spot = none := by simpa [Addr.add] using World.cell?_spot (hcell 0 (by omega)).1
      subst hspot
      refine ⟨fun j => match V0 j with | .int _ z => z.toNat | _ => 0, fun j => match V1 j with | .int _ z => z | _ => 0, .inr ⟨b, off, cap, rfl, ?_, ?_⟩, hmx⟩
      · exact World.block_lt_of_cell? W _ (hcell 0 (by omega)).1
      · intro j hj
        obtain ⟨k0, k1, t0, t1⟩ := hcell j (by omega)
        obtain ⟨z0, e0, _, w0⟩ := DataW.trod_int Tryd.underlying77 t0
        obtain ⟨z1, e1, _, w1⟩ := DataW.trod_int Tryd.underlying3 t1
        simp only [List.cons.injEq, and_true] at e0 e1
        have b0 := bounds_u64 w0
        rw [add_plain, e0] at k0
        rw [add_plain, e1] at k1
        rw [← Nat.add_assoc] at k1
        simp only [e0, e1]
        refine ⟨?_, k1, by omega⟩
        rw [k0]
        simp
        omega

end

end Go.Proofs.YtbfolfacppbalaaDoor
