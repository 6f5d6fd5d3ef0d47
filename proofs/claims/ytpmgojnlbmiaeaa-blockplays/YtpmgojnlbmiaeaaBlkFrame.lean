/-
  What the arguments of the statements of this seat are, read as data.
-/
import Derived.Test.YtpmgojnlbmiaeaaBlkLawC
import Derived.WalkKit
import Derived.ProofKit
import Derived.OpenShut
import Derived.LaidMore
import Derived.SliceStrings
import Derived.SizedLaws
import Derived.ChangeOld
import Derived.Carry
import Derived.Deep.SlicePairs
namespace Go.Proofs.Ytpmgojnlbmiaeaa
open Go.ChangeShapes Go.WideShapes Go.ChangeAt Go.RowKit

theorem own : ownKnob Try.prog.godebug = none := by kernel_rfl
theorem laidOut : laidOutB Try.prog = true := by kernel_rfl
theorem cellsI : Try.prog.cellsOf 3 = 1 := by kernel_rfl
theorem cellsStr : Try.prog.cellsOf 9 = 1 := by kernel_rfl
theorem cellsAct : Try.prog.cellsOf 34 = 3 := by kernel_rfl

section
variable {H : Type} {enc : TypeId × Value → H} {W : World} {d : DataW H} {ps : List MemPlace} {a0 : Option Addr} {len cap : Nat}
/-- An act's cells, as data. -/
theorem act_of_cells {fuel : Nat} {cs : List Value} {x : DataW H × List MemPlace} (hl : cs.length = 3) (h : DataW.trod enc Try.prog W 0 (fun _ => true) true fuel 34 cs = some x) :
    ∃ (kd id : Int) (s : List UInt8), cs = [.int .i64 kd, .int .i64 id, .string (bs s)] ∧ -9223372036854775808 ≤ id ∧ id ≤ 9223372036854775807 := by
  obtain ⟨xs, m, _, _, _, hxs, hel⟩ := DataW.trod_struct Try.underlying34 h
  obtain ⟨c0, c1, c2, rfl⟩ : ∃ c0 c1 c2, cs = [c0, c1, c2] := by
    match cs, hl with
    | [c0, c1, c2], _ => exact ⟨c0, c1, c2, rfl⟩
  have e0 := hel 0 _ rfl
  have e1 := hel 1 _ rfl
  have e2 := hel 2 _ rfl
  simp [hxs, cellsI, cellsStr] at e0 e1 e2
  obtain ⟨kd, k0, _, _⟩ := DataW.trod_int Try.underlying3 e0
  obtain ⟨id, k1, _, w1⟩ := DataW.trod_int Try.underlying3 e1
  obtain ⟨s, k2, _⟩ := DataW.trod_string Try.underlying9 e2
  obtain ⟨l, rfl⟩ := bs_of s
  simp only [List.cons.injEq, and_true] at k0 k1 k2
  have b1 := bounds_i64 w1
  exact ⟨kd, id, l, by rw [k0, k1, k2], by omega, by omega⟩

/-- A list of acts, as it came in. -/
theorem acts_of (h : DataW.Trod enc Try.prog W 0 (fun _ => true) true 22 (.slice a0 len cap) d ps) : ∃ ak ai at_, ActRd W (.slice a0 len cap) len ak ai at_ ∧ ∀ k, k < len → -9223372036854775808 ≤ ai k ∧ ai k ≤ 9223372036854775807 := by
  obtain ⟨fuel, hf⟩ := h
  rcases Deep.open_slice Try.underlying22 hf with ⟨hcs, _⟩ | ⟨a, len', cap', m, n, D, Pl, hcs, _, hl, hm, hmm, _, hx⟩
  · simp [Value.cells] at hcs
    obtain ⟨rfl, rfl, rfl⟩ := hcs
    exact ⟨fun _ => 0, fun _ => 0, fun _ => [], .inl ⟨rfl, _, _, rfl⟩, fun k hk => by omega⟩
  · simp [Value.cells] at hcs
    obtain ⟨rfl, rfl, rfl⟩ := hcs
    simp only [if_true] at hmm
    obtain ⟨f, hfc⟩ := Deep.choose_lt (α := Int × Int × List UInt8) (n := len) (p := fun i q => W.cell? (a.add (i * 3)) = some (.int .i64 q.1) ∧ W.cell? (a.add (i * 3 + 1)) = some (.int .i64 q.2.1) ∧ W.cell? (a.add (i * 3 + 2)) = some (.string (bs q.2.2)) ∧ -9223372036854775808 ≤ q.2.1 ∧ q.2.1 ≤ 9223372036854775807) (fun i hi => by
      obtain ⟨cs', h1, h2⟩ := hx i (by omega)
      rw [cellsAct] at h1
      obtain ⟨_, hlen, hcell⟩ := World.cells?_some h1
      obtain ⟨kd, id, s, rfl, hb1, hb2⟩ := act_of_cells hlen h2
      have e0 := hcell 0 (by omega)
      have e1 := hcell 1 (by omega)
      have e2 := hcell 2 (by omega)
      rw [Deep.add_add] at e0 e1 e2
      exact ⟨(kd, id, s), by simpa using e0, by simpa using e1, by simpa using e2, hb1, hb2⟩)
    by_cases h0 : len = 0
    · subst h0
      exact ⟨fun _ => 0, fun _ => 0, fun _ => [], .inl ⟨rfl, _, _, rfl⟩, fun k hk => by omega⟩
    · obtain ⟨b, off, spot⟩ := a
      have hspot : spot = none := by simpa [Addr.add] using World.cell?_spot (hfc 0 (by omega)).1
      subst hspot
      refine ⟨fun j => (f j).1, fun j => (f j).2.1, fun j => (f j).2.2, .inr ⟨b, off, cap, rfl, World.block_lt_of_cell? W _ (hfc 0 (by omega)).1, fun j hj => ?_⟩, fun k hk => (hfc k hk).2.2.2⟩
      obtain ⟨k0, k1, k2, _⟩ := hfc j hj
      rw [add_plain] at k0 k1 k2
      rw [← Nat.add_assoc] at k1 k2
      exact ⟨k0, k1, k2⟩

/-- An act by itself, as it came in. -/
theorem act_of {r : Reach} {b : Nat} {v : Value} (hv : Value.okWide Try.prog W r b 34 v) (h : DataW.Trod enc Try.prog W 0 (fun _ => true) true 34 v d ps) :
    ∃ (kd id : Int) (s : List UInt8), v = .agg #[.int .i64 kd, .int .i64 id, .string (bs s)] := by
  simp only [Value.okWide, Try.underlying34] at hv
  obtain ⟨cs, rfl, h2, _⟩ := hv
  rw [cellsAct] at h2
  obtain ⟨fuel, hf⟩ := h
  obtain ⟨kd, id, s, hc, _⟩ := act_of_cells (by simpa [Value.cells] using h2) hf
  refine ⟨kd, id, s, ?_⟩
  simp only [Value.cells] at hc
  rw [← Array.toArray_toList (xs := cs), hc]
end
end Go.Proofs.Ytpmgojnlbmiaeaa
