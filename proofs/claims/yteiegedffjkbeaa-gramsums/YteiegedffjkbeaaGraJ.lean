/-
  gram: Find.
-/
import Derived.Test.YteiegedffjkbeaaGraI
namespace Go.Proofs.Yteiegedffjkbeaa
open Go.RowKit

set_option maxRecDepth 1000000 in
theorem find_clo (u v : Value) (f g : List Int) (N : Int) (w : World) (hu : IL w u f) (hv : IL w v g) (hf : f.length ≤ 1000000) (hg : g.length ≤ 1000000) :
    Calls Try.prog 32 #[.agg #[u, .int .i64 N], v] w fun e w' => e = .returned (.int .i64 (cmpL f g)) ∧ More w w' := by
  obtain ⟨uo, uc, rfl⟩ := hu.shape
  obtain ⟨vo, vc, rfl⟩ := hv.shape
  have hcm := gr_cmp _ _ f g (w.alloc (.cells #[.slice uo f.length uc, .int .i64 N] 43)) (hu.more (more_alloc _ _)) (hv.more (more_alloc _ _)) hf hg
  generalize cmpL f g = C at *
  clear hu hv
  generalize f.length = m1 at *
  generalize g.length = m2 at *
  go_enter Try.func32, Try.ntmps32
  go_wp2_with (go_at_call 8; refine hcm.mono ?_; rintro e w' ⟨rfl, hw'⟩; subst w')
  go_ret
  exact ⟨rfl, more_alloc _ _⟩

/-- Where a search has come to. -/
def Srch (L : List CE) (g : List Int) (i j : Nat) : Prop := (∀ k, k < i → cmpL (ce L k).1 g < 0) ∧ ∀ k, j ≤ k → k < L.length → 0 ≤ cmpL (ce L k).1 g
theorem Srch.up {L : List CE} {g : List Int} {i j h : Nat} (hR : Ris L) (hS : Srch L g i j) (hh : h < L.length) (hc : cmpL (ce L h).1 g < 0) : Srch L g (h + 1) j :=
  ⟨fun k hk => by
    by_cases e : k = h
    · rw [e]; exact hc
    · exact cmpL_trans (hR.at (i := k) (j := h) (by omega) hh) hc, hS.2⟩
theorem Srch.down {L : List CE} {g : List Int} {i j h : Nat} (hR : Ris L) (hS : Srch L g i j) (hc : 0 ≤ cmpL (ce L h).1 g) : Srch L g i h :=
  ⟨hS.1, fun k hk hkl => by
    by_cases e : k = h
    · rw [e]; exact hc
    · have := hR.at (i := h) (j := k) (by omega) hkl
      rcases Int.lt_or_le (cmpL (ce L k).1 g) 0 with hneg | hpos
      · have := cmpL_trans this hneg; omega
      · exact hpos⟩

set_option maxRecDepth 1000000 in
set_option maxHeartbeats 3200000 in
theorem bin_search (v u : Value) (L : List CE) (g : List Int) (w : World) (h : CL w v L) (hu : IL w u g) (hl : L.length ≤ 1000000) (hs : Sht L) (hg : g.length ≤ 1000000) (hR : Ris L) :
    Calls Try.prog 31 #[v, u, .func (.func 32) #[] #[]] w fun e w' => (∃ i : Nat, i ≤ L.length ∧ Srch L g i i ∧ e = .returned (.tuple #[.int .i64 i, .bool (decide (i < L.length ∧ cmpL (ce L i).1 g = 0))])) ∧ More w w' := by
  obtain ⟨ao, cap, rfl⟩ := h.shape
  obtain ⟨go, gc, rfl⟩ := hu.shape
  obtain ⟨n, hnn⟩ : ∃ n, L.length = n := ⟨_, rfl⟩
  have HA := Hid.mk (And.intro (fun j (hj : j < n) => h.at (j := j) (by omega)) (And.intro (fun j (hj : j < n) => hs j (by omega)) (And.intro hu (And.intro hg (And.intro hR hnn)))))
  rw [hnn] at hl ⊢
  clear h hnn hs hu hR
  generalize hgl : g.length = gl at *
  go_enter Try.func31, Try.ntmps31
  go_wp2
  go_loopw [9, 10] (fun x y wr => ∃ i j : Nat, i ≤ j ∧ j ≤ n ∧ x = .int .i64 i ∧ y = .int .i64 j ∧ Srch L g i j ∧ More w wr) (fun x y _ => (intOf y).toNat - (intOf x).toNat)
  case atStart => exact ⟨0, n, by omega, by omega, rfl, rfl, ⟨fun k hk => by omega, fun k h1 h2 => by have := HA.out.2.2.2.2.2; omega⟩, More.refl _⟩
  case round =>
    obtain ⟨i, j, hij, hjn, rfl, rfl, hSr, hM⟩ := hrel
    have HM := Hid.mk (And.intro hSr hM)
    clear hSr
    by_cases hlt : i < j
    · obtain ⟨m, hm⟩ : ∃ m : Nat, (i + j) / 2 = m := ⟨_, rfl⟩
      have hmn : m < n := by omega
      have him : i ≤ m := by omega
      have hmj : m < j := by omega
      have hmi : ((i : Int) + j) / 2 = m := by omega
      obtain ⟨b, o, vo, vc, rfl, hb, c1, c2, i1⟩ := HA.out.1 m hmn
      have c1 := (hM.cell (p := ⟨b, o + m * 2, none⟩) hb).trans c1
      have c2 := (hM.cell (p := ⟨b, o + m * 2 + 1, none⟩) hb).trans c2
      have hcl := find_clo _ _ _ g (ce L m).2 wr (i1.more hM) (HA.out.2.2.1.more hM) (HA.out.2.1 m hmn) (by rw [hgl]; exact HA.out.2.2.2.1)
      obtain ⟨C, hC⟩ : ∃ C, cmpL (ce L m).1 g = C := ⟨_, rfl⟩
      rw [hC] at hcl
      have HC := Hid.mk hC
      generalize (ce L m).1.length = m1 at *
      generalize (ce L m).2 = N at *
      clear hM hb i1 hm hC
      by_cases hneg : C < 0
      · go_wp2_with (go_at_call 32; refine hcl.mono ?_; rintro e w' ⟨rfl, hM'⟩; have HN := Hid.mk (More.trans HM.out.2 hM'); clear hM')
        go_roundw
        case rel => exact ⟨m + 1, j, by omega, by omega, by go_num, by trivial, HM.out.1.up HA.out.2.2.2.2.1 (by rw [HA.out.2.2.2.2.2]; exact hmn) (by rw [HC.out]; exact hneg), HN.out⟩
        case measure => simp [intOf]; omega
      · go_wp2_with (go_at_call 32; refine hcl.mono ?_; rintro e w' ⟨rfl, hM'⟩; have HN := Hid.mk (More.trans HM.out.2 hM'); clear hM')
        go_roundw
        case rel => exact ⟨i, m, by omega, by omega, by trivial, by go_num, HM.out.1.down HA.out.2.2.2.2.1 (by rw [HC.out]; omega), HN.out⟩
        case measure => simp [intOf]; omega
    · obtain rfl : i = j := by omega
      by_cases hin : i < n
      · obtain ⟨b, o, vo, vc, rfl, hb, c1, c2, i1⟩ := HA.out.1 i hin
        have c1 := (hM.cell (p := ⟨b, o + i * 2, none⟩) hb).trans c1
        have c2 := (hM.cell (p := ⟨b, o + i * 2 + 1, none⟩) hb).trans c2
        have hcl := find_clo _ _ _ g (ce L i).2 wr (i1.more hM) (HA.out.2.2.1.more hM) (HA.out.2.1 i hin) (by rw [hgl]; exact HA.out.2.2.2.1)
        obtain ⟨C, hC⟩ : ∃ C, cmpL (ce L i).1 g = C := ⟨_, rfl⟩
        rw [hC] at hcl
        have HC := Hid.mk hC
        generalize (ce L i).1.length = m1 at *
        generalize (ce L i).2 = N at *
        clear hM hb i1 hC
        go_wp2_with (go_at_call 32; refine hcl.mono ?_; rintro e w' ⟨rfl, hM'⟩; have HN := Hid.mk (More.trans HM.out.2 hM'); clear hM')
        go_ret2
        refine ⟨⟨i, by omega, HM.out.1, ?_⟩, HN.out⟩
        rw [HC.out]
        by_cases hz : C = 0
        · subst hz; simp [hin]
        · simp [hin, hz]
      · obtain rfl : i = n := by omega
        go_wp2
        go_ret2
        exact ⟨⟨i, by omega, HM.out.1, by simp⟩, HM.out.2⟩

set_option maxRecDepth 1000000 in
theorem gr_find (v u : Value) (L : List CE) (g : List Int) (w : World) (h : CL w v L) (hu : IL w u g) (hl : L.length ≤ 1000000) (hs : Sht L) (hg : g.length ≤ 1000000) (hR : Ris L) :
    Calls Try.prog 22 #[v, u] w fun e w' => e = .returned (.int .i64 (fnd L g)) ∧ More w w' := by
  have hb := bin_search v u L g w h hu hl hs hg hR
  obtain ⟨ao, cap, rfl⟩ := h.shape
  obtain ⟨go, gc, rfl⟩ := hu.shape
  have HF := Hid.mk (fun i (hi : i ≤ L.length) (hS : Srch L g i i) => fnd_cut hR hi hS.1 hS.2)
  obtain ⟨F, hF⟩ : ∃ F, fnd L g = F := ⟨_, rfl⟩
  rw [hF] at HF ⊢
  clear h hu hs hR hF
  obtain ⟨n, hn⟩ : ∃ n, L.length = n := ⟨_, rfl⟩
  rw [hn] at hb hl HF ⊢
  generalize g.length = gl at *
  go_enter Try.func22, Try.ntmps22
  go_wp2_with (go_at_call 31; refine hb.mono ?_; rintro e w' ⟨⟨i, hi, hS, rfl⟩, hM⟩; have HM := Hid.mk (And.intro (HF.out i hi hS) hM); clear hS hM HF hb; obtain ⟨B, hB⟩ : ∃ B, decide (i < n ∧ cmpL (ce L i).1 g = 0) = B := ⟨_, rfl⟩; rw [hB]; have HB := Hid.mk hB; clear hB; cases B)
  · go_wp2
    go_ret
    exact ⟨ret_i64 (by rw [HM.out.1, if_neg (of_decide_eq_false HB.out)]), HM.out.2⟩
  · go_wp2
    go_ret
    exact ⟨ret_i64 (by rw [HM.out.1, if_pos (of_decide_eq_true HB.out)]), HM.out.2⟩
end Go.Proofs.Yteiegedffjkbeaa
