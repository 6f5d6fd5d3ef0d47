/-
  What the arguments of the statements of this seat are, read as data; the library's table.
-/
import Derived.Test.YtgcjbkcfcklcfaaDoorStreamLawB
import Derived.Test.YtgcjbkcfcklcfaaDoorStreamLawC
import Derived.WalkKit
import Derived.ProofKit
import Derived.OpenShut
import Derived.LaidMore
import Derived.Lib.LaidTab
import Derived.Deep.SlicePairs
import Derived.Carry
namespace Go.Proofs.YtgcjbkcfcklcfaaDoor
open Go.ChangeShapes Go.WideShapes Go.ChangeAt Go.RowKit

theorem own : ownKnob Tryd.prog.godebug = none := by kernel_rfl
theorem laidOut : laidOutB Tryd.prog = true := by kernel_rfl
theorem gTab : Tryd.prog.globalNamed "math/bits.deBruijn64tab" = some 0 := by kernel_rfl
theorem tTab : (Tryd.prog.globals[0]?).map (·.type) = some 92 := by kernel_rfl
theorem cellsTab : Tryd.prog.cellsOf 92 = 64 := by kernel_rfl
theorem cellsU8 : Tryd.prog.cellsOf 5 = 1 := by kernel_rfl
theorem cellsU64 : Tryd.prog.cellsOf 32 = 1 := by kernel_rfl
theorem cellsInt : Tryd.prog.cellsOf 3 = 1 := by kernel_rfl
theorem cellsPart : Tryd.prog.cellsOf 72 = 2 := by kernel_rfl
theorem cellsCode : Tryd.prog.cellsOf 34 = 3 := by kernel_rfl

/-- The table's numbers. -/
def tabZ : List Int := Lib.deBruijn64tab.map Int.ofNat
theorem tabZ_at : ∀ i : Fin 64, tabZ.getD i.val 0 = ((Lib.deBruijn64tab.getD i.val 0 : Nat) : Int) := by decide +kernel

theorem tab_of_laid {W : World} (h : laidMetH Tryd.prog [("math/bits.deBruijn64tab", Lib.tabData .u8 tabZ)] W) : TabIn W := by
  rw [MakeChecks.laidMetH_plain _ _ _ (by kernel_rfl)] at h
  have hT := Lib.tabIs_of_head gTab tTab Tryd.underlying92 Tryd.underlying5 cellsU8 cellsTab h
  intro j hj
  have := hT.cell gTab j hj
  rw [tabZ_at ⟨j, hj⟩] at this
  exact this

theorem door_met (os : Os) (args : Array Value) : laidMetH Tryd.prog [("math/bits.deBruijn64tab", Lib.tabData .u8 tabZ)] ((World.doorLaid Tryd.prog 400 os).forCall (fun _ _ => 0) ⟨#[], args, []⟩).memory :=
  laidMetH_of_parts3 (fuel := 8) (laidMet_of_run' 8 (by kernel_rfl) (by kernel_rfl)) (by kernel_rfl) (by kernel_rfl)

section
variable {H : Type} {enc : TypeId × Value → H} {W : World} {d : DataW H} {ps : List MemPlace} {a0 : Option Addr} {len cap : Nat}

/-- A list of parts, as it came in. -/
theorem parts_of (h : DataW.Trod enc Tryd.prog W 0 (fun _ => true) true 44 (.slice a0 len cap) d ps) : ∃ pW pN, PRd W (.slice a0 len cap) len pW pN ∧ len ≤ 9223372036854775807 := by
  obtain ⟨fuel, hf⟩ := h
  rcases Deep.open_slice_pairs Tryd.underlying44 Tryd.underlying72 cellsPart rfl rfl cellsU64 cellsInt hf with ⟨hcs, _⟩ | ⟨a, len', cap', m, n, V0, V1, D0, D1, P0, P1, hcs, _, hl, hm, hmm, _, hcell⟩
  · simp [Value.cells] at hcs
    obtain ⟨rfl, rfl, rfl⟩ := hcs
    exact ⟨fun _ => 0, fun _ => 0, .inl ⟨rfl, _, _, rfl⟩, by omega⟩
  · simp [Value.cells] at hcs
    obtain ⟨rfl, rfl, rfl⟩ := hcs
    simp only [if_true] at hmm
    have hmx : len ≤ 9223372036854775807 := by unfold maxLen at hm; omega
    by_cases h0 : len = 0
    · subst h0
      exact ⟨fun _ => 0, fun _ => 0, .inl ⟨rfl, _, _, rfl⟩, by omega⟩
    · obtain ⟨b, off, spot⟩ := a
      have hspot : spot = none := by simpa [Addr.add] using World.cell?_spot (hcell 0 (by omega)).1
      subst hspot
      refine ⟨fun j => match V0 j with | .int _ z => z.toNat | _ => 0, fun j => match V1 j with | .int _ z => z | _ => 0, .inr ⟨b, off, cap, rfl, ?_, ?_⟩, hmx⟩
      · exact World.block_lt_of_cell? W _ (hcell 0 (by omega)).1
      · intro j hj
        obtain ⟨k0, k1, t0, t1⟩ := hcell j (by omega)
        obtain ⟨z0, e0, _, w0⟩ := DataW.trod_int Tryd.underlying32 t0
        obtain ⟨z1, e1, _, w1⟩ := DataW.trod_int Tryd.underlying3 t1
        simp only [List.cons.injEq, and_true] at e0 e1
        have b0 := bounds_u64 w0
        rw [add_plain, e0] at k0
        rw [add_plain, e1] at k1
        rw [← Nat.add_assoc] at k1
        simp only [e0, e1]
        refine ⟨?_, k1, by omega⟩
        rw [k0]
        simp
        omega

/-- A code's cells, as data. -/
theorem code_cells {fuel : Nat} {cs : List Value} {x : DataW H × List MemPlace} (hl : cs.length = 3) (h : DataW.trod enc Tryd.prog W 0 (fun _ => true) true fuel 34 cs = some x) :
    ∃ (kd : Int) (y : Nat) (N : Int), cs = [.int .i64 kd, .int .u64 y, .int .i64 N] ∧ y < 18446744073709551616 := by
  obtain ⟨xs, m, _, _, _, hxs, hel⟩ := DataW.trod_struct Tryd.underlying34 h
  obtain ⟨c0, c1, c2, rfl⟩ : ∃ c0 c1 c2, cs = [c0, c1, c2] := by
    match cs, hl with
    | [c0, c1, c2], _ => exact ⟨c0, c1, c2, rfl⟩
  have e0 := hel 0 _ rfl
  have e1 := hel 1 _ rfl
  have e2 := hel 2 _ rfl
  simp [hxs, cellsInt, cellsU64] at e0 e1 e2
  obtain ⟨kd, k0, _, _⟩ := DataW.trod_int Tryd.underlying3 e0
  obtain ⟨y, k1, _, w1⟩ := DataW.trod_int Tryd.underlying32 e1
  obtain ⟨N, k2, _, _⟩ := DataW.trod_int Tryd.underlying3 e2
  simp only [List.cons.injEq, and_true] at k0 k1 k2
  have b1 := bounds_u64 w1
  obtain ⟨y, rfl⟩ := Int.eq_ofNat_of_zero_le b1.1
  exact ⟨kd, y, N, by rw [k0, k1, k2], by omega⟩

/-- A list of codes, as it came in. -/
theorem codes_of (h : DataW.Trod enc Tryd.prog W 0 (fun _ => true) true 22 (.slice a0 len cap) d ps) : ∃ cK cX cN, CRd W (.slice a0 len cap) len cK cX cN ∧ (∀ k, cX k < 18446744073709551616) ∧ len ≤ 9223372036854775807 := by
  obtain ⟨fuel, hf⟩ := h
  rcases Deep.open_slice Tryd.underlying22 hf with ⟨hcs, _⟩ | ⟨a, len', cap', m, n, D, Pl, hcs, _, hl, hm, hmm, _, hx⟩
  · simp [Value.cells] at hcs
    obtain ⟨rfl, rfl, rfl⟩ := hcs
    exact ⟨fun _ => 0, fun _ => 0, fun _ => 0, .inl ⟨rfl, _, _, rfl⟩, fun _ => by show 0 < _; decide, by omega⟩
  · simp [Value.cells] at hcs
    obtain ⟨rfl, rfl, rfl⟩ := hcs
    simp only [if_true] at hmm
    have hmx : len ≤ 9223372036854775807 := by unfold maxLen at hm; omega
    obtain ⟨f, hfc⟩ := Deep.choose_lt (α := Int × Nat × Int) (n := len) (p := fun i q => W.cell? (a.add (i * 3)) = some (.int .i64 q.1) ∧ W.cell? (a.add (i * 3 + 1)) = some (.int .u64 (q.2.1 : Nat)) ∧ W.cell? (a.add (i * 3 + 2)) = some (.int .i64 q.2.2) ∧ q.2.1 < 18446744073709551616) (fun i hi => by
      obtain ⟨cs', h1, h2⟩ := hx i (by omega)
      rw [cellsCode] at h1
      obtain ⟨_, hlen, hcell⟩ := World.cells?_some h1
      obtain ⟨kd, y, N, rfl, hy⟩ := code_cells hlen h2
      have e0 := hcell 0 (by omega)
      have e1 := hcell 1 (by omega)
      have e2 := hcell 2 (by omega)
      rw [Deep.add_add] at e0 e1 e2
      exact ⟨(kd, y, N), by simpa using e0, by simpa using e1, by simpa using e2, hy⟩)
    by_cases h0 : len = 0
    · subst h0
      exact ⟨fun _ => 0, fun _ => 0, fun _ => 0, .inl ⟨rfl, _, _, rfl⟩, fun _ => by show 0 < _; decide, by omega⟩
    · obtain ⟨b, off, spot⟩ := a
      have hspot : spot = none := by simpa [Addr.add] using World.cell?_spot (hfc 0 (by omega)).1
      subst hspot
      refine ⟨fun j => (f j).1, fun j => if j < len then (f j).2.1 else 0, fun j => (f j).2.2, .inr ⟨b, off, cap, rfl, World.block_lt_of_cell? W _ (hfc 0 (by omega)).1, fun j hj => ?_⟩, fun k => ?_, hmx⟩
      · obtain ⟨k0, k1, k2, _⟩ := hfc j hj
        rw [add_plain] at k0 k1 k2
        rw [← Nat.add_assoc] at k1 k2
        exact ⟨k0, by show _ = some (Value.int .u64 ((if j < len then (f j).2.1 else 0 : Nat) : Int)); rw [if_pos hj]; exact k1, k2⟩
      · show (if k < len then (f k).2.1 else 0) < _
        split
        · exact (hfc k (by assumption)).2.2.2
        · decide
end

/-- A code by itself, as it came in. -/
theorem code_of {H : Type} {enc : TypeId × Value → H} {W : World} {r : Reach} {b : Nat} {v : Value} {d : DataW H} {ps : List MemPlace}
    (hv : Value.okWide Tryd.prog W r b 34 v) (h : DataW.Trod enc Tryd.prog W 0 (fun _ => true) true 34 v d ps) :
    ∃ (kd : Int) (y : Nat) (N : Int), v = codeV kd y N ∧ y < 18446744073709551616 := by
  simp only [Value.okWide, Tryd.underlying34] at hv
  obtain ⟨cs, rfl, h2, _⟩ := hv
  rw [cellsCode] at h2
  obtain ⟨fuel, hf⟩ := h
  obtain ⟨kd, y, N, hc, hy⟩ := code_cells (by simpa [Value.cells] using h2) hf
  refine ⟨kd, y, N, ?_, hy⟩
  simp only [Value.cells] at hc
  rw [codeV, ← Array.toArray_toList (xs := cs), hc]

end Go.Proofs.YtgcjbkcfcklcfaaDoor
