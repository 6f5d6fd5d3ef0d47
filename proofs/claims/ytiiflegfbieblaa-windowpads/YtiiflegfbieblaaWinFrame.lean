/-
  What the arguments of the statements of this seat are, read as data.
-/
import Derived.Test.YtiiflegfbieblaaWinLawA
import Derived.Deep.Matrix
import Derived.WalkKit
import Derived.ProofKit
import Derived.OpenShut
import Derived.LaidMore
import Derived.SliceStrings
import Derived.SizedLaws
import Derived.ChangeOld
import Derived.Carry
namespace Go.Proofs.Ytiiflegfbieblaa
open Go.ChangeShapes Go.WideShapes Go.ChangeAt Go.RowKit

theorem own : ownKnob Try.prog.godebug = none := by kernel_rfl
theorem laidOut : laidOutB Try.prog = true := by kernel_rfl
theorem cellsI : Try.prog.cellsOf 3 = 1 := by kernel_rfl
theorem cellsIs : Try.prog.cellsOf 30 = 1 := by kernel_rfl
theorem cellsT : Try.prog.cellsOf 48 = 3 := by kernel_rfl
theorem cellsStr : Try.prog.cellsOf 9 = 1 := by kernel_rfl

theorem weights_in {H : Type} {P : Program} {e : TypeId} {n : Nat} {d : DataW H} (hn : n ∈ d.weights P e) : ∀ {l : List (DataW H)}, d ∈ l → n ∈ DataW.weightsAll P e l
  | d0 :: r, h => by
    rw [DataW.weightsAll, List.mem_append]
    rcases List.mem_cons.1 h with rfl | h
    · exact .inl hn
    · exact .inr (weights_in hn h)
theorem reach_all {l : List Nat} (h : l.all (· ≤ reachBytes) = true) {n : Nat} (hn : n ∈ l) : n ≤ reachBytes := by
  have := List.all_eq_true.1 h n hn
  simpa using this

section
variable {H : Type} {enc : TypeId × Value → H} {W : World} {d : DataW H} {ps : List MemPlace} {a0 : Option Addr} {len cap : Nat}

/-- A list of texts, as it came in: each text is within the form's reach. -/
theorem texts_of (h : DataW.Trod enc Try.prog W 0 (fun _ => true) true 22 (.slice a0 len cap) d ps) (hz : ∀ n ∈ d.weights Try.prog 22, n ≤ reachBytes) : ∃ ts, ARd W (.slice a0 len cap) ts ∧ (∀ x ∈ ts, x.length ≤ 281474976710656) ∧ ∀ ao n c, Value.slice a0 len cap = .slice ao n c → n ≤ c := by
  obtain ⟨fuel, hf⟩ := h
  rcases open_strings Try.underlying22 Try.underlying9 cellsStr hf with ⟨hcs, _⟩ | ⟨a, len', cap', ss, hcs, _, hl, hm, hlen0, hx, hcell, _⟩
  · simp [Value.cells] at hcs
    obtain ⟨rfl, rfl, rfl⟩ := hcs
    exact ⟨[], .inl ⟨rfl, _, _, rfl⟩, (fun _ h => by cases h), fun ao n c h => by obtain ⟨_, rfl, rfl⟩ := Value.slice.inj h; exact Nat.le_refl _⟩
  · simp [Value.cells] at hcs
    obtain ⟨rfl, rfl, rfl⟩ := hcs
    have hcc : ∀ ao n c, Value.slice (some a) len cap = .slice ao n c → n ≤ c := fun ao n c h => by obtain ⟨_, rfl, rfl⟩ := Value.slice.inj h; exact hl
    simp only [if_true] at hlen0
    by_cases h0 : len = 0
    · subst h0
      exact ⟨[], .inl ⟨rfl, _, _, rfl⟩, (fun _ h => by cases h), hcc⟩
    · obtain ⟨b, off, spot⟩ := a
      have hspot : spot = none := by simpa [Addr.add] using World.cell?_spot (hcell 0 (by omega))
      subst hspot
      have hd : d = .slice (Go.ChangeShapes.strs (ss.take len)) (Go.ChangeShapes.strs (ss.drop len)) := (Prod.mk.inj hx).1
      have hreach : ∀ j, j < len → (ss.getD j ByteArray.empty).data.toList.length ≤ 281474976710656 := fun j hj => by
        have hjl : j < (ss.take len).length := by rw [List.length_take]; omega
        have hget : (ss.take len)[j] = ss.getD j ByteArray.empty := by
          rw [List.getElem_take, List.getD_eq_getElem?_getD, List.getElem?_eq_getElem (by omega)]; rfl
        have hmem : (ss.getD j ByteArray.empty) ∈ ss.take len := by rw [← hget]; exact List.getElem_mem hjl
        have hin : (DataW.lit (.string (ss.getD j ByteArray.empty).data.toList) : DataW H) ∈ Go.ChangeShapes.strs (ss.take len) := List.mem_map.2 ⟨_, hmem, rfl⟩
        have hw : (ss.getD j ByteArray.empty).data.toList.length ∈ d.weights Try.prog 22 := by
          rw [hd]
          simp only [DataW.weights, Try.underlying22]
          exact List.mem_cons_of_mem _ (List.mem_append.2 (.inl (weights_in (by simp [DataW.weights]) hin)))
        have := hz _ hw
        unfold reachBytes at this
        omega
      have hlen : ((List.range len).map fun j => (ss.getD j ByteArray.empty).data.toList).length = len := by simp
      refine ⟨(List.range len).map fun j => (ss.getD j ByteArray.empty).data.toList, .inr ⟨b, off, cap, by rw [hlen], fun k hk => ?_⟩, fun x hx => ?_, hcc⟩
      · rw [hlen] at hk
        have := hcell k (by omega)
        rw [add_plain] at this
        rw [this]
        have e : bs ((ss.getD k ByteArray.empty).data.toList) = ss.getD k ByteArray.empty := by
          cases ss.getD k ByteArray.empty; simp [bs]
        have e2 : ((List.range len).map fun j => (ss.getD j ByteArray.empty).data.toList).getD k [] = (ss.getD k ByteArray.empty).data.toList := by
          rw [List.getD_eq_getElem?_getD, List.getElem?_eq_getElem (by simpa using hk)]; simp
        rw [e2, e]
      · obtain ⟨j, hj, rfl⟩ := List.mem_map.1 hx
        exact hreach j (List.mem_range.1 hj)
/-- A list of ints, as it came in. -/
theorem ints_of (h : DataW.Trod enc Try.prog W 0 (fun _ => true) true 30 (.slice a0 len cap) d ps) : ∃ p, IL W (.slice a0 len cap) p ∧ Cap (.slice a0 len cap) ∧ Src (.slice a0 len cap) p.length := by
  obtain ⟨fuel, hf⟩ := h
  rcases open_ints Try.underlying30 Try.underlying3 cellsI hf with ⟨hcs, _⟩ | ⟨a, len', cap', zs, hcs, _, hl, hm, hz, _, hcell, hwz⟩
  · simp [Value.cells] at hcs
    obtain ⟨rfl, rfl, rfl⟩ := hcs
    exact ⟨[], IL.nil _ _ _, Cap.of (Nat.le_refl _), .inl ⟨rfl, rfl⟩⟩
  · simp [Value.cells] at hcs
    obtain ⟨rfl, rfl, rfl⟩ := hcs
    simp only [if_true] at hz
    have hpl : ((List.range len).map fun j => zs.getD j 0).length = len := by simp
    refine ⟨(List.range len).map fun j => zs.getD j 0, ?_, Cap.of hl, .inr ⟨a, cap, by rw [hpl]⟩⟩
    by_cases h0 : len = 0
    · subst h0
      exact IL.nil _ _ _
    · obtain ⟨b, off, spot⟩ := a
      have hspot : spot = none := by simpa [Addr.add] using World.cell?_spot (hcell 0 (by omega))
      subst hspot
      refine .inr ⟨b, off, cap, by rw [hpl], World.block_lt_of_cell? W _ (hcell 0 (by omega)), fun j hj => ?_⟩
      rw [hpl] at hj
      have := hcell j (by omega)
      rw [add_plain] at this
      rw [this]
      simp [List.getD, hj]
/-- A list of lists of ints, as it came in. -/
theorem lists_of (h : DataW.Trod enc Try.prog W 0 (fun _ => true) true 34 (.slice a0 len cap) d ps) : ∃ L, LL W (.slice a0 len cap) L := by
  obtain ⟨fuel, hf⟩ := h
  rcases Deep.open_int_rows Try.underlying34 Try.underlying30 Try.underlying3 cellsIs cellsI hf with ⟨hcs, _⟩ | ⟨a, len', cap', A, Ln, C, Z, hcs, _, hl, hm, _, hrow⟩
  · simp [Value.cells] at hcs
    obtain ⟨rfl, rfl, rfl⟩ := hcs
    exact ⟨[], .inl ⟨rfl, _, _, rfl⟩⟩
  · simp [Value.cells] at hcs
    obtain ⟨rfl, rfl, rfl⟩ := hcs
    by_cases h0 : len = 0
    · subst h0
      exact ⟨[], .inl ⟨rfl, _, _, rfl⟩⟩
    · obtain ⟨b, off, spot⟩ := a
      have hspot : spot = none := by simpa [Addr.add] using World.cell?_spot (hrow 0 (by omega)).1
      subst hspot
      have hLl : ((List.range len).map fun r => (List.range (Ln r)).map fun j => (Z r).getD j 0).length = len := by simp
      refine ⟨(List.range len).map fun r => (List.range (Ln r)).map fun j => (Z r).getD j 0, .inr ⟨b, off, cap, by rw [hLl], World.block_lt_of_cell? W _ (hrow 0 (by omega)).1, fun r hr => ?_⟩⟩
      rw [hLl] at hr
      obtain ⟨h1, h2, _, h4, _, h6, h7⟩ := hrow r (by omega)
      rw [add_plain] at h1
      have hg : ((List.range len).map fun r => (List.range (Ln r)).map fun j => (Z r).getD j 0).getD r [] = (List.range (Ln r)).map fun j => (Z r).getD j 0 := by simp [List.getD, hr]
      have hpl : ((List.range (Ln r)).map fun j => (Z r).getD j 0).length = Ln r := by simp
      refine ⟨_, h1, ?_, Cap.of h2⟩
      rw [hg]
      by_cases hz : Ln r = 0
      · rw [hz]
        exact IL.nil _ _ _
      · obtain ⟨a', ha⟩ : ∃ a', A r = some a' := by
          cases hA : A r with
          | none => have := h6 hA; omega
          | some a' => exact ⟨a', rfl⟩
        obtain ⟨_, h8⟩ := h7 a' ha
        obtain ⟨b', off', spot'⟩ := a'
        have hspot' : spot' = none := by simpa [Addr.add] using World.cell?_spot (h8 0 (by omega))
        subst hspot'
        refine .inr ⟨b', off', C r, by rw [hpl, ha], World.block_lt_of_cell? W _ (h8 0 (by omega)), fun j hj => ?_⟩
        rw [hpl] at hj
        have := h8 j (by omega)
        rw [add_plain] at this
        rw [this]
        simp [List.getD, hj]
theorem three_of {α : Type} {cs : Array α} (h : cs.size = 3) : ∃ c0 c1 c2, cs = #[c0, c1, c2] := by
  obtain ⟨l⟩ := cs
  match l, h with
  | [c0, c1, c2], _ => exact ⟨c0, c1, c2, rfl⟩
set_option maxRecDepth 100000 in
/-- Three ints, as they came in. -/
theorem trip_of {r : Reach} {b : Nat} {v : Value} (hv : Value.okWide Try.prog W r b 48 v) (h : DataW.Trod enc Try.prog W 0 (fun _ => true) true 48 v d ps) : ∃ x y z : Int, x ≤ 9223372036854775807 ∧ y ≤ 9223372036854775807 ∧ v = .agg #[.int .i64 x, .int .i64 y, .int .i64 z] := by
  simp only [Value.okWide, Try.underlying48] at hv
  obtain ⟨cs, rfl, h2, _⟩ := hv
  rw [cellsT] at h2
  obtain ⟨fuel, hf⟩ := h
  obtain ⟨xs, m, rfl, _, _, hxs, hel⟩ := DataW.trod_array Try.underlying48 hf
  obtain ⟨c0, c1, c2, rfl⟩ := three_of h2
  have e0 := hel 0 (by decide)
  have e1 := hel 1 (by decide)
  have e2 := hel 2 (by decide)
  rw [cellsI] at e0 e1 e2
  simp [Value.cells, hxs] at e0 e1 e2
  obtain ⟨z0, k0, _, w0⟩ := DataW.trod_int Try.underlying3 e0
  obtain ⟨z1, k1, _, w1⟩ := DataW.trod_int Try.underlying3 e1
  obtain ⟨z2, k2, _, w2⟩ := DataW.trod_int Try.underlying3 e2
  simp only [List.cons.injEq, and_true] at k0 k1 k2
  have b0 := (bounds_i64 w0).2
  have b1 := (bounds_i64 w1).2
  exact ⟨z0, z1, z2, b0, b1, by rw [k0, k1, k2]⟩
/-- A text within the form's reach. -/
theorem text_reach {b : List UInt8} (h : (bs b).data.toList.length ≤ reachBytes) : b.length ≤ 281474976710656 := by
  rw [bs_data] at h
  unfold reachBytes at h
  omega
end

end Go.Proofs.Ytiiflegfbieblaa
