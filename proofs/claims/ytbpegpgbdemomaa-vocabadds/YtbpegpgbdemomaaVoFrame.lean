/-
  What the arguments of the statements of this seat are, read as data.
-/
import Derived.Test.YtbpegpgbdemomaaVoLawA
import Derived.WalkKit
import Derived.ProofKit
import Derived.OpenShut
import Derived.LaidMore
import Derived.SliceStrings
import Derived.SizedLaws
import Derived.ChangeOld
import Derived.Carry
namespace Go.Proofs.Ytbpegpgbdemomaa
open Go.ChangeShapes Go.WideShapes Go.ChangeAt Go.RowKit

theorem own : ownKnob Try.prog.godebug = none := by kernel_rfl
theorem laidOut : laidOutB Try.prog = true := by kernel_rfl
theorem cellsI : Try.prog.cellsOf 3 = 1 := by kernel_rfl
theorem cellsStr : Try.prog.cellsOf 9 = 1 := by kernel_rfl

theorem weights_in {H : Type} {P : Program} {e : TypeId} {n : Nat} {d : DataW H} (hn : n ∈ d.weights P e) : ∀ {l : List (DataW H)}, d ∈ l → n ∈ DataW.weightsAll P e l
  | d0 :: r, h => by
    rw [DataW.weightsAll, List.mem_append]
    rcases List.mem_cons.1 h with rfl | h
    · exact .inl hn
    · exact .inr (weights_in hn h)
theorem reach_all {l : List Nat} (h : l.all (· ≤ reachBytes) = true) {n : Nat} (hn : n ∈ l) : n ≤ reachBytes := by
  have := List.all_eq_true.1 h n hn
  simpa using this

section
variable {H : Type} {enc : TypeId × Value → H} {W : World} {d : DataW H} {ps : List MemPlace} {a0 : Option Addr} {len cap : Nat}

/-- A list of texts, as it came in: each text is within the form's reach. -/
theorem texts_of (h : DataW.Trod enc Try.prog W 0 (fun _ => true) true 22 (.slice a0 len cap) d ps) (hz : ∀ n ∈ d.weights Try.prog 22, n ≤ reachBytes) : ∃ ts, ARd W (.slice a0 len cap) ts ∧ (∀ x ∈ ts, x.length ≤ 281474976710656) ∧ ∀ ao n c, Value.slice a0 len cap = .slice ao n c → n ≤ c := by
  obtain ⟨fuel, hf⟩ := h
  rcases open_strings Try.underlying22 Try.underlying9 cellsStr hf with ⟨hcs, _⟩ | ⟨a, len', cap', ss, hcs, _, hl, hm, hlen0, hx, hcell, _⟩
  · simp [Value.cells] at hcs
    obtain ⟨rfl, rfl, rfl⟩ := hcs
    exact ⟨[], .inl ⟨rfl, _, _, rfl⟩, (fun _ h => by cases h), fun ao n c h => by obtain ⟨_, rfl, rfl⟩ := Value.slice.inj h; exact Nat.le_refl _⟩
  · simp [Value.cells] at hcs
    obtain ⟨rfl, rfl, rfl⟩ := hcs
    have hcc : ∀ ao n c, Value.slice (some a) len cap = .slice ao n c → n ≤ c := fun ao n c h => by obtain ⟨_, rfl, rfl⟩ := Value.slice.inj h; exact hl
    simp only [if_true] at hlen0
    by_cases h0 : len = 0
    · subst h0
      exact ⟨[], .inl ⟨rfl, _, _, rfl⟩, (fun _ h => by cases h), hcc⟩
    · obtain ⟨b, off, spot⟩ := a
      have hspot : spot = none := by simpa [Addr.add] using World.cell?_spot (hcell 0 (by omega))
      subst hspot
      have hd : d = .slice (Go.ChangeShapes.strs (ss.take len)) (Go.ChangeShapes.strs (ss.drop len)) := (Prod.mk.inj hx).1
      have hreach : ∀ j, j < len → (ss.getD j ByteArray.empty).data.toList.length ≤ 281474976710656 := fun j hj => by
        have hjl : j < (ss.take len).length := by rw [List.length_take]; omega
        have hget : (ss.take len)[j] = ss.getD j ByteArray.empty := by
          rw [List.getElem_take, List.getD_eq_getElem?_getD, List.getElem?_eq_getElem (by omega)]; rfl
        have hmem : (ss.getD j ByteArray.empty) ∈ ss.take len := by rw [← hget]; exact List.getElem_mem hjl
        have hin : (DataW.lit (.string (ss.getD j ByteArray.empty).data.toList) : DataW H) ∈ Go.ChangeShapes.strs (ss.take len) := List.mem_map.2 ⟨_, hmem, rfl⟩
        have hw : (ss.getD j ByteArray.empty).data.toList.length ∈ d.weights Try.prog 22 := by
          rw [hd]
          simp only [DataW.weights, Try.underlying22]
          exact List.mem_cons_of_mem _ (List.mem_append.2 (.inl (weights_in (by simp [DataW.weights]) hin)))
        have := hz _ hw
        unfold reachBytes at this
        omega
      have hlen : ((List.range len).map fun j => (ss.getD j ByteArray.empty).data.toList).length = len := by simp
      refine ⟨(List.range len).map fun j => (ss.getD j ByteArray.empty).data.toList, .inr ⟨b, off, cap, by rw [hlen], fun k hk => ?_⟩, fun x hx => ?_, hcc⟩
      · rw [hlen] at hk
        have := hcell k (by omega)
        rw [add_plain] at this
        rw [this]
        have e : bs ((ss.getD k ByteArray.empty).data.toList) = ss.getD k ByteArray.empty := by
          cases ss.getD k ByteArray.empty; simp [bs]
        have e2 : ((List.range len).map fun j => (ss.getD j ByteArray.empty).data.toList).getD k [] = (ss.getD k ByteArray.empty).data.toList := by
          rw [List.getD_eq_getElem?_getD, List.getElem?_eq_getElem (by simpa using hk)]; simp
        rw [e2, e]
      · obtain ⟨j, hj, rfl⟩ := List.mem_map.1 hx
        exact hreach j (List.mem_range.1 hj)
/-- A list of ints, as it came in. -/
theorem ints_of (h : DataW.Trod enc Try.prog W 0 (fun _ => true) true 45 (.slice a0 len cap) d ps) : ∃ g, ZRd W (.slice a0 len cap) len g ∧ len ≤ 9223372036854775807 := by
  obtain ⟨fuel, hf⟩ := h
  rcases open_ints Try.underlying45 Try.underlying3 cellsI hf with ⟨hcs, _⟩ | ⟨a, len', cap', zs, hcs, _, hl, hm, hz, _, hcell, hwz⟩
  · simp [Value.cells] at hcs
    obtain ⟨rfl, rfl, rfl⟩ := hcs
    exact ⟨fun _ => 0, .inl ⟨rfl, _, _, rfl⟩, by omega⟩
  · simp [Value.cells] at hcs
    obtain ⟨rfl, rfl, rfl⟩ := hcs
    simp only [if_true] at hz
    have hmx : len ≤ 9223372036854775807 := by unfold maxLen at hm; omega
    by_cases h0 : len = 0
    · subst h0
      exact ⟨fun _ => 0, .inl ⟨rfl, _, _, rfl⟩, by omega⟩
    · obtain ⟨b, off, spot⟩ := a
      have hspot : spot = none := by simpa [Addr.add] using World.cell?_spot (hcell 0 (by omega))
      subst hspot
      refine ⟨fun j => zs.getD j 0, .inr ⟨b, off, cap, rfl, ?_, ?_⟩, hmx⟩
      · exact World.block_lt_of_cell? W _ (hcell 0 (by omega))
      · intro j hj
        have := hcell j (by omega)
        rw [add_plain] at this
        rw [this]
/-- A text within the form's reach. -/
theorem text_reach {b : List UInt8} (h : (bs b).data.toList.length ≤ reachBytes) : b.length ≤ 281474976710656 := by
  rw [bs_data] at h
  unfold reachBytes at h
  omega
end

end Go.Proofs.Ytbpegpgbdemomaa
