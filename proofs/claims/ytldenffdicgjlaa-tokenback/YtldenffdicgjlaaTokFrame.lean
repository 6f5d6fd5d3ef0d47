/-
  What the arguments of the statements of this seat are, read as data.
-/
import Derived.Test.YtldenffdicgjlaaTokLawA
import Derived.WalkKit
import Derived.ProofKit
import Derived.OpenShut
import Derived.LaidMore
import Derived.SliceStrings
import Derived.Carry
namespace Go.Proofs.Ytldenffdicgjlaa
open Go.ChangeShapes Go.WideShapes Go.ChangeAt Go.RowKit

theorem own : ownKnob Try.prog.godebug = none := by kernel_rfl
theorem laidOut : laidOutB Try.prog = true := by kernel_rfl
theorem cellsStr : Try.prog.cellsOf 9 = 1 := by kernel_rfl

section
variable {H : Type} {enc : TypeId × Value → H} {W : World} {d : DataW H} {ps : List MemPlace} {a0 : Option Addr} {len cap : Nat}

/-- A list of texts, as it came in. -/
theorem texts_of (h : DataW.Trod enc Try.prog W 0 (fun _ => true) true 24 (.slice a0 len cap) d ps) : ∃ ts, ARd W (.slice a0 len cap) ts ∧ (∀ x ∈ ts, x.length ≤ 9223372036854775807) ∧ ts.length ≤ 9223372036854775807 := by
  obtain ⟨fuel, hf⟩ := h
  rcases open_strings Try.underlying24 Try.underlying9 cellsStr hf with ⟨hcs, _⟩ | ⟨a, len', cap', ss, hcs, _, hl, hm, hz, _, hcell, hsz⟩
  · simp [Value.cells] at hcs
    obtain ⟨rfl, rfl, rfl⟩ := hcs
    exact ⟨[], .inl ⟨rfl, _, _, rfl⟩, (fun _ h => by cases h), by simp⟩
  · simp [Value.cells] at hcs
    obtain ⟨rfl, rfl, rfl⟩ := hcs
    simp only [if_true] at hz
    have hmx : len ≤ 9223372036854775807 := by unfold maxLen at hm; omega
    by_cases h0 : len = 0
    · subst h0
      exact ⟨[], .inl ⟨rfl, _, _, rfl⟩, (fun _ h => by cases h), by simp⟩
    · obtain ⟨b, off, spot⟩ := a
      have hspot : spot = none := by simpa [Addr.add] using World.cell?_spot (hcell 0 (by omega))
      subst hspot
      have hlen : ((List.range len).map fun j => (ss.getD j ByteArray.empty).data.toList).length = len := by simp
      refine ⟨(List.range len).map fun j => (ss.getD j ByteArray.empty).data.toList, .inr ⟨b, off, cap, by rw [hlen], fun k hk => ?_⟩, fun x hx => ?_, by rw [hlen]; exact hmx⟩
      · rw [hlen] at hk
        have := hcell k (by omega)
        rw [add_plain] at this
        rw [this]
        have e : bs ((ss.getD k ByteArray.empty).data.toList) = ss.getD k ByteArray.empty := by
          cases ss.getD k ByteArray.empty; simp [bs]
        have e2 : ((List.range len).map fun j => (ss.getD j ByteArray.empty).data.toList).getD k [] = (ss.getD k ByteArray.empty).data.toList := by
          rw [List.getD_eq_getElem?_getD, List.getElem?_eq_getElem (by simpa using hk)]; simp
        rw [e2, e]
      · obtain ⟨j, hj, rfl⟩ := List.mem_map.1 hx
        have hjl : j < ss.length := by have := List.mem_range.1 hj; omega
        have hmem : ss.getD j ByteArray.empty ∈ ss := by rw [List.getD_eq_getElem?_getD, List.getElem?_eq_getElem hjl]; simp
        have h2 := hsz _ hmem
        unfold maxLen at h2
        have h3 : (ss.getD j ByteArray.empty).data.toList.length = (ss.getD j ByteArray.empty).size := by rw [Array.length_toList]; rfl
        omega
end

end Go.Proofs.Ytldenffdicgjlaa
