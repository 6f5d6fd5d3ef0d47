/-
  A pair of ints among the arguments.
-/
import Derived.Test.YtbjdjidamocmoaaPackFrame
import Derived.Test.YtbjdjidamocmoaaPackLawC
namespace Go.Proofs.Ytbjdjidamocmoaa
open Go.ChangeShapes Go.WideShapes Go.ChangeAt Go.RowKit

theorem cells3 : Try.prog.cellsOf 3 = 1 := by kernel_rfl
theorem cells40 : Try.prog.cellsOf 40 = 2 := by kernel_rfl

/-- A pair of ints, as it came in. -/
theorem pair_of {H : Type} {enc : TypeId × Value → H} {W : World} {r : Reach} {b : Nat} {v : Value} {d : DataW H} {ps : List MemPlace}
    (hv : Value.okWide Try.prog W r b 40 v) (h : DataW.Trod enc Try.prog W 0 (fun _ => true) true 40 v d ps) : ∃ x y : Int, v = .agg #[.int .i64 x, .int .i64 y] := by
  simp only [Value.okWide, Try.underlying40] at hv
  obtain ⟨cs, rfl, h2, _⟩ := hv
  rw [cells40] at h2
  obtain ⟨fuel, hf⟩ := h
  obtain ⟨xs, m, rfl, _, _, hxs, hel⟩ := DataW.trod_array Try.underlying40 hf
  obtain ⟨c0, c1, rfl⟩ : ∃ c0 c1, cs = #[c0, c1] := by
    match cs, h2 with
    | ⟨[c0, c1]⟩, _ => exact ⟨c0, c1, rfl⟩
  have e0 := hel 0 (by decide)
  have e1 := hel 1 (by decide)
  rw [cells3] at e0 e1
  simp [Value.cells, hxs] at e0 e1
  obtain ⟨z0, k0, _⟩ := DataW.trod_int Try.underlying3 e0
  obtain ⟨z1, k1, _⟩ := DataW.trod_int Try.underlying3 e1
  simp only [List.cons.injEq, and_true] at k0 k1
  exact ⟨z0, z1, by rw [k0, k1]⟩

end Go.Proofs.Ytbjdjidamocmoaa
