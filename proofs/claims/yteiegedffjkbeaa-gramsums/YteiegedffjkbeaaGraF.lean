/-
  gram: lists of n-grams with their numbers in memory; the document's Small, Same, Find; Rises.
-/
import Derived.Test.YteiegedffjkbeaaGraE
namespace Go.Proofs.Yteiegedffjkbeaa
open Go.RowKit

/-- A list of n-grams with their numbers, as read. -/
def CL (w : World) (v : Value) (L : List CE) : Prop :=
  (L.length = 0 ∧ ∃ ao cap, v = .slice ao 0 cap) ∨ ∃ b o cap, v = .slice (some ⟨b, o, none⟩) L.length cap ∧ b < w.heap.size ∧ ∀ j, j < L.length → ∃ u, w.cell? ⟨b, o + j * 2, none⟩ = some u ∧ w.cell? ⟨b, o + j * 2 + 1, none⟩ = some (.int .i64 (ce L j).2) ∧ IL w u (ce L j).1
theorem CL.more {w w' : World} {v : Value} {L : List CE} (h : CL w v L) (k : More w w') : CL w' v L := by
  rcases h with h | ⟨b, o, cap, rfl, hb, hc⟩
  · exact .inl h
  · refine .inr ⟨b, o, cap, rfl, Nat.lt_of_lt_of_le hb k.size, fun j hj => ?_⟩
    obtain ⟨u, h1, h2, h3⟩ := hc j hj
    exact ⟨u, (k.cell hb).trans h1, (k.cell hb).trans h2, h3.more k⟩
theorem CL.shape {w : World} {v : Value} {L : List CE} (h : CL w v L) : ∃ ao cap, v = .slice ao L.length cap := by
  rcases h with ⟨h0, ao, cap, rfl⟩ | ⟨b, o, cap, rfl, _⟩
  · exact ⟨ao, cap, by rw [h0]⟩
  · exact ⟨_, _, rfl⟩
theorem CL.at {w : World} {ao : Option Addr} {n cap : Nat} {L : List CE} (h : CL w (.slice ao n cap) L) {j : Nat} (hj : j < L.length) : ∃ b o uo uc, ao = some ⟨b, o, none⟩ ∧ b < w.heap.size ∧ w.cell? ⟨b, o + j * 2, none⟩ = some (.slice uo (ce L j).1.length uc) ∧ w.cell? ⟨b, o + j * 2 + 1, none⟩ = some (.int .i64 (ce L j).2) ∧ IL w (.slice uo (ce L j).1.length uc) (ce L j).1 := by
  rcases h with ⟨h0, _⟩ | ⟨b, o, c, hv, hb, hc⟩
  · omega
  · obtain ⟨u, h1, h2, h3⟩ := hc j hj
    obtain ⟨uo, uc, rfl⟩ := h3.shape
    exact ⟨b, o, uo, uc, (Value.slice.inj hv).1, hb, h1, h2, h3⟩
theorem CL.nil (w : World) (ao : Option Addr) (c : Nat) : CL w (.slice ao 0 c) [] := .inl ⟨rfl, _, _, rfl⟩

/-- Are there few n-grams, and short ones? -/
def smlB (L : List CE) (most long : Int) : Bool := decide ((L.length : Int) ≤ most ∧ ∀ i, i < L.length → ((ce L i).1.length : Int) ≤ long)
set_option maxRecDepth 1000000 in
set_option maxHeartbeats 1600000 in
theorem rf_small (v : Value) (L : List CE) (w : World) (h : CL w v L) :
    Calls Try.prog 16 #[v, .int .i64 60, .int .i64 12] w fun e w' => e = .returned (.bool (smlB L 60 12)) ∧ w' = w := by
  obtain ⟨ao, cap, rfl⟩ := h.shape
  obtain ⟨n, hnn⟩ : ∃ n, L.length = n := ⟨_, rfl⟩
  have HA := Hid.mk (fun j (hj : j < n) => h.at (j := j) (by omega))
  have HS := Hid.mk (show smlB L 60 12 = decide ((n : Int) ≤ 60 ∧ ∀ i, i < n → ((ce L i).1.length : Int) ≤ 12) by unfold smlB; rw [hnn])
  rw [hnn]
  obtain ⟨B, hB⟩ : ∃ B, smlB L 60 12 = B := ⟨_, rfl⟩
  rw [hB] at HS ⊢
  clear h hnn hB
  by_cases h60 : n ≤ 60
  · go_enter Try.func16, Try.ntmps16
    go_wp2
    go_loopw [7] (fun k wr => ∃ r : Nat, r ≤ n ∧ k = .int .i64 r ∧ (∀ j, j < r → ((ce L j).1.length : Int) ≤ 12) ∧ wr = w) (fun k _ => n - (intOf k).toNat)
    case atStart => exact ⟨0, by omega, rfl, (fun j hj => by omega), rfl⟩
    case round =>
      obtain ⟨r, hr, rfl, hall, rfl⟩ := hrel
      have HL := Hid.mk hall
      clear hall
      by_cases hlt : r < n
      · obtain ⟨b, o, uo, uc, rfl, _, c1, _, _⟩ := HA.out r hlt
        obtain ⟨M, hM⟩ : ∃ M, (ce L r).1.length = M := ⟨_, rfl⟩
        rw [hM] at c1
        have HM := Hid.mk hM
        clear hM
        by_cases h12 : M ≤ 12
        · go_wp2
          go_roundw
          case rel => exact ⟨r + 1, by omega, by go_num, (fun j hj => by
            by_cases hjr : j = r
            · subst hjr; rw [HM.out]; omega
            · exact HL.out j (by omega)), by trivial⟩
          case measure => simp [intOf]; omega
        · go_wp2
          go_ret
          exact ⟨ret_bool (by rw [HS.out]; symm; rw [decide_eq_false_iff_not]; rintro ⟨_, hh⟩; have := hh r hlt; rw [HM.out] at this; omega), rfl⟩
      · obtain rfl : r = n := by omega
        go_wp2
        go_ret
        exact ⟨ret_bool (by rw [HS.out]; symm; rw [decide_eq_true_iff]; exact ⟨by omega, HL.out⟩), rfl⟩
  · go_enter Try.func16, Try.ntmps16
    go_wp2
    go_ret
    exact ⟨ret_bool (by rw [HS.out]; symm; rw [decide_eq_false_iff_not]; rintro ⟨hh, _⟩; omega), rfl⟩

/-- All n-grams are short. -/
def Sht (L : List CE) : Prop := ∀ i, i < L.length → (ce L i).1.length ≤ 1000000
set_option maxRecDepth 1000000 in
set_option maxHeartbeats 1600000 in
theorem gr_rises (v : Value) (L : List CE) (w : World) (h : CL w v L) (hl : L.length ≤ 1000000) (hs : Sht L) :
    Calls Try.prog 20 #[v] w fun e w' => e = .returned (.bool (risB L)) ∧ ∃ q, w' = w.drewN q := by
  obtain ⟨ao, cap, rfl⟩ := h.shape
  obtain ⟨n, hnn⟩ : ∃ n, L.length = n := ⟨_, rfl⟩
  have HA := Hid.mk (And.intro (fun j (hj : j < n) => h.at (j := j) (by omega)) (fun j (hj : j < n) => hs j (by omega)))
  have HS := Hid.mk (show risB L = decide (∀ i, i < n - 1 → cmpL (ce L i).1 (ce L (i + 1)).1 < 0) by unfold risB; rw [hnn])
  rw [hnn] at hl ⊢
  obtain ⟨B, hB⟩ : ∃ B, risB L = B := ⟨_, rfl⟩
  rw [hB] at HS ⊢
  clear h hnn hB hs
  go_enter Try.func20, Try.ntmps20
  go_wp2
  go_loopw [3] (fun k wr => ∃ r : Nat, r ≤ n ∧ k = .int .i64 ((r : Int) + 1) ∧ (∀ j, j < r → j + 1 < n → cmpL (ce L j).1 (ce L (j + 1)).1 < 0) ∧ ∃ q, wr = w.drewN q) (fun k _ => n - (intOf k).toNat)
  case atStart => exact ⟨0, by omega, rfl, (fun j hj => by omega), 0, rfl⟩
  case round =>
    obtain ⟨r, hr, rfl, hall, q, hwr⟩ := hrel
    have HL := Hid.mk hall
    clear hall
    by_cases hlt : r + 1 < n
    · obtain ⟨b, o, uo, uc, rfl, hb, c1, _, i1⟩ := HA.out.1 r (by omega)
      obtain ⟨b2, o2, vo, vc, e, _, c2, _, i2⟩ := HA.out.1 (r + 1) hlt
      simp only [Option.some.injEq, Addr.mk.injEq, and_true] at e
      obtain ⟨rfl, rfl⟩ := e
      have hM : More w wr := by rw [hwr]; exact More.drewN _ _
      have c1 := (hM.cell (p := ⟨b, o + r * 2, none⟩) hb).trans c1
      have c2 := (hM.cell (p := ⟨b, o + (r + 1) * 2, none⟩) hb).trans c2
      have hcm := fun q => gr_cmp _ _ _ _ (wr.drewN q) ((i1.more hM).drawn q) ((i2.more hM).drawn q) (HA.out.2 r (by omega)) (HA.out.2 (r + 1) hlt)
      have HW := Hid.mk hwr
      obtain ⟨C, hC⟩ : ∃ C, cmpL (ce L r).1 (ce L (r + 1)).1 = C := ⟨_, rfl⟩
      rw [hC] at hcm
      have HC := Hid.mk hC
      generalize (ce L r).1.length = m1 at *
      generalize (ce L (r + 1)).1.length = m2 at *
      obtain ⟨k, hk⟩ : ∃ k : Nat, r + 1 = k := ⟨_, rfl⟩
      have hki : (r : Int) + 1 = k := by omega
      have hkm : IntKind.i64.wrap ((k : Int) - 1) = r := by rw [wrap_i64]; omega
      have hkr : (k : Int) - 1 = r := by omega
      rw [hk] at c2 hlt
      rw [hki]
      have HK := Hid.mk hk
      clear hwr hb hM i1 i2 hC hk hki
      by_cases hc : C < 0
      · go_wp2_with fail
        go_quiet ((go_at_call 8; exact Calls.quiet_of_same (hcm _)))
        go_wp2
        go_roundw
        case rel => exact ⟨k, by omega, by go_num, (fun j hj hjn => by
          by_cases hjr : j = r
          · subst hjr; rw [HC.out]; exact hc
          · exact HL.out j (by have := HK.out; omega) hjn), _, by rw [HW.out]; exact drewN_two _ _ _⟩
        case measure => simp [intOf]; omega
      · have hc0 : 0 ≤ C := by omega
        go_wp2_with fail
        go_quiet ((go_at_call 8; exact Calls.quiet_of_same (hcm _)))
        go_wp2
        go_ret
        exact ⟨ret_bool (by rw [HS.out]; symm; rw [decide_eq_false_iff_not]; intro hh; have := hh r (by have := HK.out; omega); rw [HC.out] at this; omega), _, by rw [HW.out]; exact drewN_two _ _ _⟩
    · have hge : ¬ (r : Int) + 1 < n := by omega
      have HW := Hid.mk hwr
      clear hwr
      go_wp2
      go_ret
      exact ⟨ret_bool (by rw [HS.out]; symm; rw [decide_eq_true_iff]; exact fun i hi => HL.out i (by omega) (by omega)), _, HW.out⟩
end Go.Proofs.Yteiegedffjkbeaa
