/-
  gram: the document's Rises, Same, Find.
-/
import Derived.Test.YteiegedffjkbeaaGraF
namespace Go.Proofs.Yteiegedffjkbeaa
open Go.RowKit

set_option maxRecDepth 1000000 in
set_option maxHeartbeats 1600000 in
theorem rf_rises (v : Value) (L : List CE) (w : World) (h : CL w v L) (hl : L.length ≤ 1000000) (hs : Sht L) :
    Calls Try.prog 21 #[v] w fun e w' => e = .returned (.bool (risB L)) ∧ ∃ q, w' = w.drewN q := by
  obtain ⟨ao, cap, rfl⟩ := h.shape
  obtain ⟨n, hnn⟩ : ∃ n, L.length = n := ⟨_, rfl⟩
  have HA := Hid.mk (And.intro (fun j (hj : j < n) => h.at (j := j) (by omega)) (fun j (hj : j < n) => hs j (by omega)))
  have HS := Hid.mk (show risB L = decide (∀ i, i < n - 1 → cmpL (ce L i).1 (ce L (i + 1)).1 < 0) by unfold risB; rw [hnn])
  rw [hnn] at hl ⊢
  obtain ⟨B, hB⟩ : ∃ B, risB L = B := ⟨_, rfl⟩
  rw [hB] at HS ⊢
  clear h hnn hB hs
  go_enter Try.func21, Try.ntmps21
  go_wp2
  go_loopw [3] (fun k wr => ∃ r : Nat, r ≤ n ∧ k = .int .i64 ((r : Int) + 1) ∧ (∀ j, j < r → j + 1 < n → cmpL (ce L j).1 (ce L (j + 1)).1 < 0) ∧ ∃ q, wr = w.drewN q) (fun k _ => n - (intOf k).toNat)
  case atStart => exact ⟨0, by omega, rfl, (fun j hj => by omega), 0, rfl⟩
  case round =>
    obtain ⟨r, hr, rfl, hall, q, hwr⟩ := hrel
    have HL := Hid.mk hall
    clear hall
    by_cases hlt : r + 1 < n
    · obtain ⟨b, o, uo, uc, rfl, hb, c1, _, i1⟩ := HA.out.1 r (by omega)
      obtain ⟨b2, o2, vo, vc, e, _, c2, _, i2⟩ := HA.out.1 (r + 1) hlt
      simp only [Option.some.injEq, Addr.mk.injEq, and_true] at e
      obtain ⟨rfl, rfl⟩ := e
      have hM : More w wr := by rw [hwr]; exact More.drewN _ _
      have c1 := (hM.cell (p := ⟨b, o + r * 2, none⟩) hb).trans c1
      have c2 := (hM.cell (p := ⟨b, o + (r + 1) * 2, none⟩) hb).trans c2
      have hcm := fun q => rf_cmp _ _ _ _ (wr.drewN q) ((i1.more hM).drawn q) ((i2.more hM).drawn q) (HA.out.2 r (by omega)) (HA.out.2 (r + 1) hlt)
      have HW := Hid.mk hwr
      obtain ⟨C, hC⟩ : ∃ C, cmpL (ce L r).1 (ce L (r + 1)).1 = C := ⟨_, rfl⟩
      rw [hC] at hcm
      have HC := Hid.mk hC
      generalize (ce L r).1.length = m1 at *
      generalize (ce L (r + 1)).1.length = m2 at *
      obtain ⟨k, hk⟩ : ∃ k : Nat, r + 1 = k := ⟨_, rfl⟩
      have hki : (r : Int) + 1 = k := by omega
      have hkm : IntKind.i64.wrap ((k : Int) - 1) = r := by rw [wrap_i64]; omega
      have hkr : (k : Int) - 1 = r := by omega
      rw [hk] at c2 hlt
      rw [hki]
      have HK := Hid.mk hk
      clear hwr hb hM i1 i2 hC hk hki
      by_cases hc : C < 0
      · go_wp2_with fail
        go_quiet ((go_at_call 9; exact Calls.quiet_of (hcm _)))
        go_wp2
        go_roundw
        case rel => exact ⟨k, by omega, by go_num, (fun j hj hjn => by
          by_cases hjr : j = r
          · subst hjr; rw [HC.out]; exact hc
          · exact HL.out j (by have := HK.out; omega) hjn), _, by rw [HW.out]; exact drewN_two _ _ _⟩
        case measure => simp [intOf]; omega
      · have hc0 : 0 ≤ C := by omega
        go_wp2_with fail
        go_quiet ((go_at_call 9; exact Calls.quiet_of (hcm _)))
        go_wp2
        go_ret
        exact ⟨ret_bool (by rw [HS.out]; symm; rw [decide_eq_false_iff_not]; intro hh; have := hh r (by have := HK.out; omega); rw [HC.out] at this; omega), _, by rw [HW.out]; exact drewN_two _ _ _⟩
    · have hge : ¬ (r : Int) + 1 < n := by omega
      have HW := Hid.mk hwr
      clear hwr
      go_wp2
      go_ret
      exact ⟨ret_bool (by rw [HS.out]; symm; rw [decide_eq_true_iff]; exact fun i hi => HL.out i (by omega) (by omega)), _, HW.out⟩
theorem ce_ext {L M : List CE} (hl : L.length = M.length) (h : ∀ j, j < L.length → (ce L j).2 = (ce M j).2 ∧ (ce L j).1 = (ce M j).1) : L = M := by
  apply List.ext_getElem hl
  intro j h1 h2
  have := h j h1
  rw [ce_get L h1, ce_get M h2] at this
  exact Prod.ext this.2 this.1
set_option maxRecDepth 1000000 in
set_option maxHeartbeats 3200000 in
theorem rf_same (v u : Value) (L M : List CE) (w : World) (h : CL w v L) (k : CL w u M) (hl : L.length ≤ 1000000) (hs : Sht L) :
    Calls Try.prog 19 #[v, u] w fun e w' => e = .returned (.bool (decide (L = M))) ∧ ∃ q, w' = w.drewN q := by
  obtain ⟨ao, ca, rfl⟩ := h.shape
  obtain ⟨bo, cb, rfl⟩ := k.shape
  by_cases hlen : L.length = M.length
  · obtain ⟨n, hnn⟩ : ∃ n, L.length = n := ⟨_, rfl⟩
    have HA := Hid.mk (And.intro (fun j (hj : j < n) => h.at (j := j) (by omega)) (And.intro (fun j (hj : j < n) => k.at (j := j) (by omega)) (fun j (hj : j < n) => hs j (by omega))))
    have HD := Hid.mk (And.intro (fun hh : ∀ j, j < L.length → (ce L j).2 = (ce M j).2 ∧ (ce L j).1 = (ce M j).1 => (decide_eq_true (ce_ext hlen hh) : decide (L = M) = true)) (fun (j : Nat) (hh : ¬ ((ce L j).2 = (ce M j).2 ∧ (ce L j).1 = (ce M j).1)) => (decide_eq_false (fun e => hh (by rw [e]; exact ⟨rfl, rfl⟩)) : decide (L = M) = false)))
    rw [← hlen]
    rw [hnn] at hl HD ⊢
    generalize decide (L = M) = D at *
    clear h k hnn hs hlen
    go_enter Try.func19, Try.ntmps19
    go_wp2
    go_loopw [5] (fun k wr => ∃ r : Nat, r ≤ n ∧ k = .int .i64 r ∧ (∀ j, j < r → (ce L j).2 = (ce M j).2 ∧ (ce L j).1 = (ce M j).1) ∧ ∃ q, wr = w.drewN q) (fun k _ => n - (intOf k).toNat)
    case atStart => exact ⟨0, by omega, rfl, (fun j hj => by omega), 0, rfl⟩
    case round =>
      obtain ⟨r, hr, rfl, hall, q, hwr⟩ := hrel
      have HL := Hid.mk hall
      clear hall
      by_cases hlt : r < n
      · obtain ⟨b, o, uo, uc, rfl, hb, c1, c2, i1⟩ := HA.out.1 r hlt
        obtain ⟨b2, o2, vo, vc, rfl, hb2, d1, d2, i2⟩ := HA.out.2.1 r hlt
        have hM : More w wr := by rw [hwr]; exact More.drewN _ _
        have c1 := (hM.cell (p := ⟨b, o + r * 2, none⟩) hb).trans c1
        have c2 := (hM.cell (p := ⟨b, o + r * 2 + 1, none⟩) hb).trans c2
        have d1 := (hM.cell (p := ⟨b2, o2 + r * 2, none⟩) hb2).trans d1
        have d2 := (hM.cell (p := ⟨b2, o2 + r * 2 + 1, none⟩) hb2).trans d2
        have his := fun q => rf_intsD _ _ _ _ (wr.drewN q) ((i1.more hM).drawn q) ((i2.more hM).drawn q) (HA.out.2.2 r hlt)
        have HW := Hid.mk hwr
        have HE := Hid.mk (HD.out.2 r)
        obtain ⟨x, hx⟩ : ∃ x, (ce L r).2 = x := ⟨_, rfl⟩
        obtain ⟨y, hy⟩ : ∃ y, (ce M r).2 = y := ⟨_, rfl⟩
        rw [hx, hy] at HE
        rw [hx] at c2
        rw [hy] at d2
        have HX := Hid.mk (And.intro hx hy)
        obtain ⟨g, hg⟩ : ∃ g, (ce L r).1 = g := ⟨_, rfl⟩
        obtain ⟨f, hf⟩ : ∃ f, (ce M r).1 = f := ⟨_, rfl⟩
        rw [hg, hf] at HE his
        rw [hg] at c1
        rw [hf] at d1
        have HG := Hid.mk (And.intro hg hf)
        have HB := Hid.mk (And.intro (fun e : g = f => (decide_eq_true e : decide (g = f) = true)) (fun e : ¬ g = f => (decide_eq_false e : decide (g = f) = false)))
        have hB := HB.out
        obtain ⟨B, hBe⟩ : ∃ B, decide (g = f) = B := ⟨_, rfl⟩
        rw [hBe] at his HB hB
        clear hwr hb hb2 hM i1 i2 hx hy hg hf hBe
        generalize g.length = m1 at *
        generalize f.length = m2 at *
        by_cases hxy : x = y
        · subst hxy
          cases B with
          | true =>
            have hgf : g = f := Decidable.byContradiction fun e => by have := hB.2 e; cases this
            clear hB HB
            go_wp2_with fail
            go_quiet ((go_at_call 15; exact Calls.quiet_of (his _)))
            go_wp2
            go_roundw
            case rel => exact ⟨r + 1, by omega, by go_num, (fun j hj => by
              by_cases hjr : j = r
              · subst hjr; rw [HX.out.1, HX.out.2, HG.out.1, HG.out.2]; exact ⟨rfl, hgf⟩
              · exact HL.out j (by omega)), _, by rw [HW.out]; exact drewN_two _ _ _⟩
            case measure => simp [intOf]; omega
          | false =>
            have hgf : ¬ g = f := fun e => by have := hB.1 e; cases this
            clear hB HB
            go_wp2_with fail
            go_quiet ((go_at_call 15; exact Calls.quiet_of (his _)))
            go_wp2
            go_ret
            exact ⟨ret_bool (HE.out (fun e => hgf e.2)).symm, _, by rw [HW.out]; exact drewN_two _ _ _⟩
        · have hne : (x != y) = true := by simpa using hxy
          clear hB HB
          go_wp2_with fail
          go_quiet (fail)
          go_wp2
          go_ret
          exact ⟨ret_bool (HE.out (fun e => hxy e.1)).symm, _, by rw [HW.out]; exact drewN_two _ _ _⟩
      · obtain rfl : r = n := by omega
        have HR := Hid.mk (HD.out.1 HL.out)
        have HW := Hid.mk hwr
        clear hwr
        go_wp2
        go_ret
        exact ⟨ret_bool HR.out.symm, _, HW.out⟩
  · have hD : Hid (decide (L = M) = false) := Hid.mk (decide_eq_false fun e => hlen (by rw [e]))
    generalize decide (L = M) = D at *
    clear h k hs hl
    generalize L.length = a at *
    generalize M.length = b at *
    have h1 : ¬ ((a : Int) = (b : Int)) := by omega
    have h2 : ((a : Int) == (b : Int)) = false := beq_eq_false_iff_ne.2 h1
    go_enter Try.func19, Try.ntmps19
    go_wp2
    go_ret
    exact ⟨ret_bool hD.out.symm, 0, rfl⟩

set_option maxRecDepth 1000000 in
set_option maxHeartbeats 1600000 in
theorem rf_find (v u : Value) (L : List CE) (g : List Int) (w : World) (h : CL w v L) (hu : IL w u g) (hl : L.length ≤ 1000000) (hs : Sht L) :
    Calls Try.prog 23 #[v, u] w fun e w' => e = .returned (.int .i64 (fnd L g)) ∧ ∃ q, w' = w.drewN q := by
  obtain ⟨ao, cap, rfl⟩ := h.shape
  obtain ⟨go, gc, rfl⟩ := hu.shape
  obtain ⟨n, hnn⟩ : ∃ n, L.length = n := ⟨_, rfl⟩
  have HA := Hid.mk (And.intro (fun j (hj : j < n) => h.at (j := j) (by omega)) (And.intro (fun j (hj : j < n) => hs j (by omega)) hu))
  have HS := Hid.mk (And.intro (fun (hh : ∀ i, i < n → (ce L i).1 ≠ g) => fnd_none L g (by rw [hnn]; exact hh)) (fun i (hi : i < n) (h1 : ∀ j, j < i → (ce L j).1 ≠ g) (h2 : (ce L i).1 = g) => fnd_some L g i (by omega) h1 h2))
  rw [hnn] at hl ⊢
  obtain ⟨F, hF⟩ : ∃ F, fnd L g = F := ⟨_, rfl⟩
  rw [hF] at HS ⊢
  clear h hnn hs hu hF
  go_enter Try.func23, Try.ntmps23
  go_wp2
  go_loopw [5] (fun k wr => ∃ r : Nat, r ≤ n ∧ k = .int .i64 r ∧ (∀ j, j < r → (ce L j).1 ≠ g) ∧ ∃ q, wr = w.drewN q) (fun k _ => n - (intOf k).toNat)
  case atStart => exact ⟨0, by omega, rfl, (fun j hj => by omega), 0, rfl⟩
  case round =>
    obtain ⟨r, hr, rfl, hall, q, hwr⟩ := hrel
    have HL := Hid.mk hall
    clear hall
    by_cases hlt : r < n
    · obtain ⟨b, o, uo, uc, rfl, hb, c1, _, i1⟩ := HA.out.1 r hlt
      have hM : More w wr := by rw [hwr]; exact More.drewN _ _
      have c1 := (hM.cell (p := ⟨b, o + r * 2, none⟩) hb).trans c1
      have his := rf_intsD _ _ _ _ wr (i1.more hM) (HA.out.2.2.more hM) (HA.out.2.1 r hlt)
      have HW := Hid.mk hwr
      obtain ⟨f, hf⟩ : ∃ f, (ce L r).1 = f := ⟨_, rfl⟩
      rw [hf] at his c1
      have HF := Hid.mk hf
      have hB := And.intro (fun e : f = g => (decide_eq_true e : decide (f = g) = true)) (fun e : ¬ f = g => (decide_eq_false e : decide (f = g) = false))
      obtain ⟨B, hBe⟩ : ∃ B, decide (f = g) = B := ⟨_, rfl⟩
      rw [hBe] at his hB
      generalize g.length = gl at *
      generalize f.length = m1 at *
      clear hwr hb hM i1 hf hBe
      cases B with
      | true =>
        have hgf : f = g := Decidable.byContradiction fun e => by have := hB.2 e; cases this
        have HR := Hid.mk (HS.out.2 r hlt HL.out (by rw [HF.out]; exact hgf))
        clear hB hgf
        go_wp2_with (go_at_call 15; refine his.mono ?_; rintro e w' ⟨rfl, q', hw'⟩; have H2 := Hid.mk hw'; clear hw')
        go_ret
        exact ⟨ret_i64 HR.out.symm, _, by rw [H2.out, HW.out]; exact drewN_two _ _ _⟩
      | false =>
        have hgf : ¬ f = g := fun e => by have := hB.1 e; cases this
        have HG := Hid.mk hgf
        clear hB hgf
        go_wp2_with (go_at_call 15; refine his.mono ?_; rintro e w' ⟨rfl, q', hw'⟩; have H2 := Hid.mk hw'; clear hw')
        go_roundw
        case rel => exact ⟨r + 1, by omega, by go_num, (fun j hj => by
          by_cases hjr : j = r
          · subst hjr; rw [HF.out]; exact HG.out
          · exact HL.out j (by omega)), _, by rw [H2.out, HW.out]; exact drewN_two _ _ _⟩
        case measure => simp [intOf]; omega
    · obtain rfl : r = n := by omega
      have HR := Hid.mk (HS.out.1 HL.out)
      have HW := Hid.mk hwr
      clear hwr
      go_wp2
      go_ret
      exact ⟨ret_i64 HR.out.symm, _, HW.out⟩
end Go.Proofs.Yteiegedffjkbeaa
