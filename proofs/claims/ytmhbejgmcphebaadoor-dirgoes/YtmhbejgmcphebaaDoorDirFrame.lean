/-
  What the arguments of the statements of this seat are, read as data.
-/
import Derived.Test.YtmhbejgmcphebaaDoorDirCase
import Derived.WalkKit
import Derived.ProofKit
import Derived.OpenShut
import Derived.ShutString
import Derived.ChangeOld
import Derived.Below
import Derived.Carry
namespace Go.Proofs.YtmhbejgmcphebaaDoor
open Go.ChangeShapes Go.WideShapes Go.ChangeAt Go.RowKit

theorem own : ownKnob Tryd.prog.godebug = none := by kernel_rfl
theorem laidOut : laidOutB Tryd.prog = true := by kernel_rfl
theorem cells5 : Tryd.prog.cellsOf 5 = 1 := by kernel_rfl
theorem cells22 : Tryd.prog.cellsOf 22 = 1 := by kernel_rfl
theorem cells23 : Tryd.prog.cellsOf 23 = 1 := by kernel_rfl
theorem cells25 : Tryd.prog.cellsOf 25 = 4 := by kernel_rfl

section
variable {H : Type} {enc : TypeId × Value → H} {W : World} {fuel : Nat} {cs : List Value} {x : DataW H × List MemPlace}

/-- A list of words, as it came in. -/
theorem words_in (h : DataW.trod enc Tryd.prog W 0 (fun _ => true) true fuel 22 cs = some x) : ∃ a0 len cap f, cs = [.slice a0 len cap] ∧ Rd W (.slice a0 len cap) len f ∧ (∀ j, j < len → f j < 18446744073709551616) ∧ len ≤ 9223372036854775807 := by
  rcases open_ints Tryd.underlying22 Tryd.underlying23 cells23 h with ⟨rfl, _⟩ | ⟨a, len, cap, zs, rfl, _, hl, hm, hz, _, hcell, hwz⟩
  · exact ⟨_, _, _, fun _ => 0, rfl, .inl ⟨rfl, _, _, rfl⟩, fun _ _ => by show 0 < _; decide, by omega⟩
  · simp only [if_true] at hz
    have hmx : len ≤ 9223372036854775807 := by unfold maxLen at hm; omega
    by_cases h0 : len = 0
    · subst h0
      exact ⟨_, _, _, fun _ => 0, rfl, .inl ⟨rfl, _, _, rfl⟩, fun _ _ => by show 0 < _; decide, by omega⟩
    · obtain ⟨b, off, spot⟩ := a
      have hspot : spot = none := by simpa [Addr.add] using World.cell?_spot (hcell 0 (by omega))
      subst hspot
      have hb : ∀ j, j < len → 0 ≤ zs.getD j 0 ∧ zs.getD j 0 ≤ 18446744073709551615 := fun j hj => by
        have := range_u64 hwz j
        simpa [List.getD] using this
      refine ⟨_, _, _, fun j => (zs.getD j 0).toNat, rfl, .inr ⟨b, off, cap, rfl, ?_, ?_⟩, fun j hj => by have := hb j hj; show (zs.getD j 0).toNat < _; omega, hmx⟩
      · exact World.block_lt_of_cell? W _ (hcell 0 (by omega))
      · intro j hj
        have := hcell j (by omega)
        rw [add_plain] at this
        rw [this]
        have := hb j hj
        simp only [Option.some.injEq, Value.int.injEq, true_and]
        omega
end

/-- A case, as it came in. -/
theorem case_of {H : Type} {enc : TypeId × Value → H} {W : World} {r : Reach} {b : Nat} {v : Value} {d : DataW H} {ps : List MemPlace}
    (hv : Value.okWide Tryd.prog W r b 25 v) (h : DataW.Trod enc Tryd.prog W 0 (fun _ => true) true 25 v d ps) :
    ∃ s L T x N f, v = caseV s T x N ∧ Rd W s L f ∧ (∀ j, j < L → f j < 18446744073709551616) ∧ L ≤ 9223372036854775807 ∧ T ≤ 255 ∧ x < 18446744073709551616 ∧ N ≤ 255 := by
  simp only [Value.okWide, Tryd.underlying25] at hv
  obtain ⟨cs, rfl, h2, _⟩ := hv
  rw [cells25] at h2
  obtain ⟨fuel, hf⟩ := h
  obtain ⟨xs, m, _, _, _, hxs, hel⟩ := DataW.trod_struct Tryd.underlying25 hf
  obtain ⟨c0, c1, c2, c3, rfl⟩ : ∃ c0 c1 c2 c3, cs = #[c0, c1, c2, c3] := by
    match cs, h2 with
    | ⟨[c0, c1, c2, c3]⟩, _ => exact ⟨c0, c1, c2, c3, rfl⟩
  have e0 := hel 0 _ rfl
  have e1 := hel 1 _ rfl
  have e2 := hel 2 _ rfl
  have e3 := hel 3 _ rfl
  simp [Value.cells, hxs, cells5, cells22, cells23] at e0 e1 e2 e3
  obtain ⟨s, L, cap, f, k0, hr, hfb, hL⟩ := words_in e0
  obtain ⟨T, k1, _, w1⟩ := DataW.trod_int Tryd.underlying5 e1
  obtain ⟨x, k2, _, w2⟩ := DataW.trod_int Tryd.underlying23 e2
  obtain ⟨N, k3, _, w3⟩ := DataW.trod_int Tryd.underlying5 e3
  simp only [List.cons.injEq, and_true] at k0 k1 k2 k3
  have b1 := bounds_u8 w1
  have b2 := bounds_u64 w2
  have b3 := bounds_u8 w3
  obtain ⟨T, rfl⟩ := Int.eq_ofNat_of_zero_le b1.1
  obtain ⟨x, rfl⟩ := Int.eq_ofNat_of_zero_le b2.1
  obtain ⟨N, rfl⟩ := Int.eq_ofNat_of_zero_le b3.1
  exact ⟨_, L, T, x, N, f, by rw [k0, k1, k2, k3], hr, hfb, hL, by omega, by omega, by omega⟩

end Go.Proofs.YtmhbejgmcphebaaDoor
