/-
  What the arguments of the statements of this seat are, read as data.
-/
import Derived.Test.YteiegedffjkbeaaGraLawC
import Derived.WalkKit
import Derived.ProofKit
import Derived.OpenShut
import Derived.LaidMore
import Derived.SliceStrings
import Derived.SizedLaws
import Derived.ChangeOld
import Derived.Carry
import Derived.Deep.SlicePairs
namespace Go.Proofs.Yteiegedffjkbeaa
open Go.ChangeShapes Go.WideShapes Go.ChangeAt Go.RowKit

theorem own : ownKnob Try.prog.godebug = none := by kernel_rfl
theorem laidOut : laidOutB Try.prog = true := by kernel_rfl
theorem cellsI : Try.prog.cellsOf 3 = 1 := by kernel_rfl
theorem cellsIs : Try.prog.cellsOf 22 = 1 := by kernel_rfl
theorem cellsCE : Try.prog.cellsOf 43 = 2 := by kernel_rfl

section
variable {H : Type} {enc : TypeId × Value → H} {W : World} {d : DataW H} {ps : List MemPlace} {a0 : Option Addr} {len cap : Nat}
/-- A list of ints' cell, as data. -/
theorem il_of_cell {fuel : Nat} {c0 : Value} {x : DataW H × List MemPlace} (h : DataW.trod enc Try.prog W 0 (fun _ => true) true fuel 22 [c0] = some x) : ∃ g, IL W c0 g := by
  rcases open_ints Try.underlying22 Try.underlying3 cellsI h with ⟨hcs, _⟩ | ⟨a, len', cap', zs, hcs, _, hl, hm, hz, _, hcell, hwz⟩
  · simp only [List.cons.injEq, and_true] at hcs
    subst hcs
    exact ⟨[], IL.nil _ _ _⟩
  · simp only [List.cons.injEq, and_true] at hcs
    subst hcs
    simp only [if_true] at hz
    have hpl : ((List.range len').map fun j => zs.getD j 0).length = len' := by simp
    refine ⟨(List.range len').map fun j => zs.getD j 0, ?_⟩
    by_cases h0 : len' = 0
    · subst h0
      exact IL.nil _ _ _
    · obtain ⟨b, off, spot⟩ := a
      have hspot : spot = none := by simpa [Addr.add] using World.cell?_spot (hcell 0 (by omega))
      subst hspot
      refine .inr ⟨b, off, cap', by rw [hpl], World.block_lt_of_cell? W _ (hcell 0 (by omega)), fun j hj => ?_⟩
      rw [hpl] at hj
      have := hcell j (by omega)
      rw [add_plain] at this
      rw [this]
      simp [List.getD, hj]
/-- A list of ints, as it came in. -/
theorem ints_of (h : DataW.Trod enc Try.prog W 0 (fun _ => true) true 22 (.slice a0 len cap) d ps) : ∃ p, IL W (.slice a0 len cap) p := by
  obtain ⟨fuel, hf⟩ := h
  exact il_of_cell (by simpa [Value.cells] using hf)
/-- An n-gram's cells with its number, as data. -/
theorem ce_of_cells {fuel : Nat} {cs : List Value} {x : DataW H × List MemPlace} (hl : cs.length = 2) (h : DataW.trod enc Try.prog W 0 (fun _ => true) true fuel 43 cs = some x) :
    ∃ (u : Value) (g : List Int) (n : Int), cs = [u, .int .i64 n] ∧ IL W u g ∧ Fit n := by
  obtain ⟨xs, m, _, _, _, hxs, hel⟩ := DataW.trod_struct Try.underlying43 h
  obtain ⟨c0, c1, rfl⟩ : ∃ c0 c1, cs = [c0, c1] := by
    match cs, hl with
    | [c0, c1], _ => exact ⟨c0, c1, rfl⟩
  have e0 := hel 0 _ rfl
  have e1 := hel 1 _ rfl
  simp [hxs, cellsI, cellsIs] at e0 e1
  obtain ⟨g, hg⟩ := il_of_cell e0
  obtain ⟨n, k1, _, w1⟩ := DataW.trod_int Try.underlying3 e1
  simp only [List.cons.injEq, and_true] at k1
  exact ⟨c0, g, n, by rw [k1], hg, Fit.of (bounds_i64 w1)⟩
/-- A list of n-grams with their numbers, as it came in. -/
theorem counts_of (h : DataW.Trod enc Try.prog W 0 (fun _ => true) true 35 (.slice a0 len cap) d ps) : ∃ L, CL W (.slice a0 len cap) L ∧ ∀ x ∈ L, Fit x.2 := by
  obtain ⟨fuel, hf⟩ := h
  rcases Deep.open_slice Try.underlying35 hf with ⟨hcs, _⟩ | ⟨a, len', cap', m, n, D, Pl, hcs, _, hl, hm, hmm, _, hx⟩
  · simp [Value.cells] at hcs
    obtain ⟨rfl, rfl, rfl⟩ := hcs
    exact ⟨[], CL.nil _ _ _, fun x hx => by simp at hx⟩
  · simp [Value.cells] at hcs
    obtain ⟨rfl, rfl, rfl⟩ := hcs
    simp only [if_true] at hmm
    obtain ⟨f, hfc⟩ := Deep.choose_lt (α := Value × List Int × Int) (n := len) (p := fun i q => W.cell? (a.add (i * 2)) = some q.1 ∧ W.cell? (a.add (i * 2 + 1)) = some (.int .i64 q.2.2) ∧ IL W q.1 q.2.1 ∧ Fit q.2.2) (fun i hi => by
      obtain ⟨cs', h1, h2⟩ := hx i (by omega)
      rw [cellsCE] at h1
      obtain ⟨_, hlen, hcell⟩ := World.cells?_some h1
      obtain ⟨u, g, n, rfl, hg, hn⟩ := ce_of_cells hlen h2
      have e0 := hcell 0 (by omega)
      have e1 := hcell 1 (by omega)
      rw [Deep.add_add] at e0 e1
      exact ⟨(u, g, n), by simpa using e0, by simpa using e1, hg, hn⟩)
    by_cases h0 : len = 0
    · subst h0
      exact ⟨[], CL.nil _ _ _, fun x hx => by simp at hx⟩
    · obtain ⟨b, off, spot⟩ := a
      have hspot : spot = none := by simpa [Addr.add] using World.cell?_spot (hfc 0 (by omega)).1
      subst hspot
      have hpl : ((List.range len).map fun j => (f j).2).length = len := by simp
      refine ⟨(List.range len).map fun j => (f j).2, .inr ⟨b, off, cap, by rw [hpl], World.block_lt_of_cell? W _ (hfc 0 (by omega)).1, fun j hj => ?_⟩, fun x hx => ?_⟩
      · rw [hpl] at hj
        obtain ⟨k0, k1, k2, _⟩ := hfc j hj
        rw [add_plain] at k0 k1
        rw [← Nat.add_assoc] at k1
        have e : ce ((List.range len).map fun j => (f j).2) j = (f j).2 := by simp [ce, List.getD, hj]
        rw [e]
        exact ⟨(f j).1, k0, k1, k2⟩
      · obtain ⟨j, hj, rfl⟩ := List.mem_map.1 hx
        exact (hfc j (List.mem_range.1 hj)).2.2.2
end

end Go.Proofs.Yteiegedffjkbeaa
