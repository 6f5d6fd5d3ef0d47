/-
  What the arguments of the statements of this seat are, read as data.
-/
import Derived.Test.YtlghcnobgpocjaaWireLawC
import Derived.WalkKit
import Derived.ProofKit
import Derived.OpenShut
import Derived.LaidMore
import Derived.Deep.SlicePairs
import Derived.Carry
namespace Go.Proofs.Ytlghcnobgpocjaa
open Go.ChangeShapes Go.WideShapes Go.ChangeAt Go.RowKit

theorem own : ownKnob Try.prog.godebug = none := by kernel_rfl
theorem laidOut : laidOutB Try.prog = true := by kernel_rfl
theorem cellsU64 : Try.prog.cellsOf 30 = 1 := by kernel_rfl
theorem cellsInt : Try.prog.cellsOf 3 = 1 := by kernel_rfl
theorem cellsStr : Try.prog.cellsOf 9 = 1 := by kernel_rfl
theorem cellsPart : Try.prog.cellsOf 32 = 4 := by kernel_rfl

section
variable {H : Type} {enc : TypeId × Value → H} {W : World} {d : DataW H} {ps : List MemPlace} {a0 : Option Addr} {len cap : Nat}

/-- A part's cells, as data. -/
theorem part_cells {fuel : Nat} {cs : List Value} {x : DataW H × List MemPlace} (hl : cs.length = 4) (h : DataW.trod enc Try.prog W 0 (fun _ => true) true fuel 32 cs = some x) :
    ∃ (kd : Int) (y : Nat) (N : Int) (s : List UInt8), cs = [.int .i64 kd, .int .u64 y, .int .i64 N, .string (bs s)] ∧ y < 18446744073709551616 ∧ (-9223372036854775808 ≤ N ∧ N ≤ 9223372036854775807) := by
  obtain ⟨xs, m, _, _, _, hxs, hel⟩ := DataW.trod_struct Try.underlying32 h
  obtain ⟨c0, c1, c2, c3, rfl⟩ : ∃ c0 c1 c2 c3, cs = [c0, c1, c2, c3] := by
    match cs, hl with
    | [c0, c1, c2, c3], _ => exact ⟨c0, c1, c2, c3, rfl⟩
  have e0 := hel 0 _ rfl
  have e1 := hel 1 _ rfl
  have e2 := hel 2 _ rfl
  have e3 := hel 3 _ rfl
  simp [hxs, cellsInt, cellsU64, cellsStr] at e0 e1 e2 e3
  obtain ⟨kd, k0, _, _⟩ := DataW.trod_int Try.underlying3 e0
  obtain ⟨y, k1, _, w1⟩ := DataW.trod_int Try.underlying30 e1
  obtain ⟨N, k2, _, w2⟩ := DataW.trod_int Try.underlying3 e2
  obtain ⟨s, k3, _⟩ := DataW.trod_string Try.underlying9 e3
  simp only [List.cons.injEq, and_true] at k0 k1 k2 k3
  have b1 := bounds_u64 w1
  have b2 := bounds_i64 w2
  obtain ⟨y, rfl⟩ := Int.eq_ofNat_of_zero_le b1.1
  obtain ⟨l, rfl⟩ := bs_of s
  exact ⟨kd, y, N, l, by rw [k0, k1, k2, k3], by omega, by omega⟩

/-- A list of parts, as it came in. -/
theorem parts_of (h : DataW.Trod enc Try.prog W 0 (fun _ => true) true 22 (.slice a0 len cap) d ps) : ∃ pK pV pN pS, PRd W (.slice a0 len cap) len pK pV pN pS ∧ Fine pV pN ∧ len ≤ 9223372036854775807 := by
  have hnone : Fine (fun _ => 0) (fun _ => 0) := ⟨fun _ => by show 0 < _; decide, fun _ => by show _ ∧ _; decide⟩
  obtain ⟨fuel, hf⟩ := h
  rcases Deep.open_slice Try.underlying22 hf with ⟨hcs, _⟩ | ⟨a, len', cap', m, n, D, Pl, hcs, _, hl, hm, hmm, _, hx⟩
  · simp [Value.cells] at hcs
    obtain ⟨rfl, rfl, rfl⟩ := hcs
    exact ⟨fun _ => 0, fun _ => 0, fun _ => 0, fun _ => [], .inl ⟨rfl, _, _, rfl⟩, hnone, by omega⟩
  · simp [Value.cells] at hcs
    obtain ⟨rfl, rfl, rfl⟩ := hcs
    simp only [if_true] at hmm
    have hmx : len ≤ 9223372036854775807 := by unfold maxLen at hm; omega
    obtain ⟨f, hfc⟩ := Deep.choose_lt (α := Int × Nat × Int × List UInt8) (n := len) (p := fun i q => W.cell? (a.add (i * 4)) = some (.int .i64 q.1) ∧ W.cell? (a.add (i * 4 + 1)) = some (.int .u64 (q.2.1 : Nat)) ∧ W.cell? (a.add (i * 4 + 2)) = some (.int .i64 q.2.2.1) ∧ W.cell? (a.add (i * 4 + 3)) = some (.string (bs q.2.2.2)) ∧ q.2.1 < 18446744073709551616 ∧ (-9223372036854775808 ≤ q.2.2.1 ∧ q.2.2.1 ≤ 9223372036854775807)) (fun i hi => by
      obtain ⟨cs', h1, h2⟩ := hx i (by omega)
      rw [cellsPart] at h1
      obtain ⟨_, hlen, hcell⟩ := World.cells?_some h1
      obtain ⟨kd, y, N, s, rfl, hy, hN⟩ := part_cells hlen h2
      have e0 := hcell 0 (by omega)
      have e1 := hcell 1 (by omega)
      have e2 := hcell 2 (by omega)
      have e3 := hcell 3 (by omega)
      rw [Deep.add_add] at e0 e1 e2 e3
      exact ⟨(kd, y, N, s), by simpa using e0, by simpa using e1, by simpa using e2, by simpa using e3, hy, hN⟩)
    by_cases h0 : len = 0
    · subst h0
      exact ⟨fun _ => 0, fun _ => 0, fun _ => 0, fun _ => [], .inl ⟨rfl, _, _, rfl⟩, hnone, by omega⟩
    · obtain ⟨b, off, spot⟩ := a
      have hspot : spot = none := by simpa [Addr.add] using World.cell?_spot (hfc 0 (by omega)).1
      subst hspot
      refine ⟨fun j => (f j).1, fun j => if j < len then (f j).2.1 else 0, fun j => if j < len then (f j).2.2.1 else 0, fun j => (f j).2.2.2, .inr ⟨b, off, cap, rfl, World.block_lt_of_cell? W _ (hfc 0 (by omega)).1, fun j hj => ?_⟩, ⟨fun k => ?_, fun k => ?_⟩, hmx⟩
      · obtain ⟨k0, k1, k2, k3, _⟩ := hfc j hj
        rw [add_plain] at k0 k1 k2 k3
        rw [← Nat.add_assoc] at k1 k2 k3
        exact ⟨k0, by show _ = some (Value.int .u64 ((if j < len then (f j).2.1 else 0 : Nat) : Int)); rw [if_pos hj]; exact k1, by show _ = some (Value.int .i64 (if j < len then (f j).2.2.1 else 0)); rw [if_pos hj]; exact k2, k3⟩
      · show (if k < len then (f k).2.1 else 0) < _
        split
        · exact (hfc k (by assumption)).2.2.2.2.1
        · decide
      · show _ ≤ (if k < len then (f k).2.2.1 else 0) ∧ (if k < len then (f k).2.2.1 else 0) ≤ _
        split
        · exact (hfc k (by assumption)).2.2.2.2.2
        · decide
end

/-- A part by itself, as it came in. -/
theorem part_of {H : Type} {enc : TypeId × Value → H} {W : World} {r : Reach} {b : Nat} {v : Value} {d : DataW H} {ps : List MemPlace}
    (hv : Value.okWide Try.prog W r b 32 v) (h : DataW.Trod enc Try.prog W 0 (fun _ => true) true 32 v d ps) :
    ∃ (kd : Int) (y : Nat) (N : Int) (s : List UInt8), v = partV kd y N s ∧ (-9223372036854775808 ≤ N ∧ N ≤ 9223372036854775807) := by
  simp only [Value.okWide, Try.underlying32] at hv
  obtain ⟨cs, rfl, h2, _⟩ := hv
  rw [cellsPart] at h2
  obtain ⟨fuel, hf⟩ := h
  obtain ⟨kd, y, N, s, hc, _, hN⟩ := part_cells (by simpa [Value.cells] using h2) hf
  refine ⟨kd, y, N, s, ?_, hN⟩
  simp only [Value.cells] at hc
  rw [partV, ← Array.toArray_toList (xs := cs), hc]

end Go.Proofs.Ytlghcnobgpocjaa
