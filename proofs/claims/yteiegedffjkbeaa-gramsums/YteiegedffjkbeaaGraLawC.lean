/-
  Law 18: GramSums.
-/
import Derived.Test.YteiegedffjkbeaaGraLawB
namespace Go.Proofs.Yteiegedffjkbeaa
open Go.RowKit

theorem sml_of {L : List CE} (h : smlB L 60 12 = true) : L.length ≤ 60 ∧ ∀ z ∈ L, z.1.length ≤ 12 := by
  have := of_decide_eq_true h
  refine ⟨by omega, fun z hz => ?_⟩
  obtain ⟨i, hi, rfl⟩ := List.getElem_of_mem hz
  have := this.2 i hi
  rw [ce_get L hi] at this
  omega
set_option maxRecDepth 1000000 in
set_option maxHeartbeats 4000000 in
theorem law_sums (vl vg : Value) (L : List CE) (g : List Int) (w : World) (hl : CL w vl L) (hg : IL w vg g) (hf : ∀ x ∈ L, Fit x.2) :
    Calls Try.prog 6 #[vl, vg] w fun e w' => e = .returned (.bool true) ∧ More w w' := by
  have hlv := live_true
  have hsm := rf_small vl L w hl
  obtain ⟨lo, lc, rfl⟩ := hl.shape
  obtain ⟨go, gc, rfl⟩ := hg.shape
  by_cases hs : smlB L 60 12 = true
  · rw [hs] at hsm
    by_cases hgl : g.length ≤ 1000
    · obtain ⟨h60, h12⟩ := sml_of hs
      have hsh : Sht L := Sht.of fun z hz => Nat.le_trans (h12 z hz) (by decide)
      have h1 := gr_sum _ L w hl (by omega) hsh hf
      have h2 := fun (W : World) (k : More w W) => rf_sum _ L W (hl.more k) (by omega) hsh
      have h4 := fun (W : World) (k : More w W) => gr_rises _ L W (hl.more k) (by omega) hsh
      have h5 := fun (W : World) (k : More w W) => rf_rises _ L W (hl.more k) (by omega) hsh
      have hTs := hsh.sum
      have hTl := sumI_len L
      have hTf := sumI_fit L hf
      have hTr := sumI_ris L
      have hTT := sumI_self (sumI L) hTr
      generalize sumI L = T at *
      have hTl : T.length ≤ 60 := by omega
      have h3 := fun (W : World) (x y : Value) (a : CL W x T) (b : CL W y T) => rf_same x y T T W a b (by omega) hTs
      simp only [decide_true] at h3
      have h6 := fun (W : World) (x : Value) (a : CL W x T) => gr_rises x T W a (by omega) hTs
      rw [hTr.b] at h6
      have h7 := fun (W : World) (x : Value) (a : CL W x T) (k : More w W) => gr_find x _ T g W a (hg.more k) (by omega) hTs (by omega) hTr
      have h8 := fun (W : World) (x : Value) (a : CL W x T) (k : More w W) => rf_find x _ T g W a (hg.more k) (by omega) hTs
      have h9 := fun (W : World) (x : Value) (a : CL W x T) => gr_sum x T W a (by omega) hTs hTf
      rw [hTT] at h9
      generalize risB L = R at *
      generalize fnd T g = F at *
      clear hl hg hf hs hsh hTs hTf hTr hTT h12
      generalize L.length = n at *
      generalize g.length = m at *
      go_enter Try.func6, Try.ntmps6
      go_wp2_with (first
        | (go_at_call 16; refine hsm.mono ?_; rintro e w' ⟨rfl, hw'⟩; subst w')
        | (go_at_call 17; first
            | (refine (h9 _ _ (H1.out.1.more H8.out.1)).mono ?_; rintro e w9 ⟨v9, rfl, hC, hM⟩; have H9 := Hid.mk (And.intro hC (And.intro (More.trans H8.out.2.1 hM) (More.trans H8.out.2.2 hM))); obtain ⟨xo9, xc9, rfl⟩ := hC.shape; clear hC hM)
            | (refine h1.mono ?_; rintro e w1 ⟨v1, rfl, hC, hM⟩; have H1 := Hid.mk (And.intro hC hM); obtain ⟨xo1, xc1, rfl⟩ := hC.shape; clear hC hM))
        | (go_at_call 18; refine (h2 _ H1.out.2).mono ?_; rintro e w2 ⟨v2, rfl, hC, hM⟩; have H2 := Hid.mk (And.intro hC (And.intro hM (More.trans H1.out.2 hM))); obtain ⟨xo2, xc2, rfl⟩ := hC.shape; clear hC hM)
        | (go_at_call 19; first
            | (refine (h3 _ _ _ H9.out.1 (H2.out.1.more H9.out.2.1)).mono ?_; rintro e w10 ⟨rfl, q, hw⟩; have H10 := Hid.mk (show More w w10 from by rw [hw]; exact More.trans H9.out.2.2 (More.drewN _ _)); clear hw)
            | (refine (h3 _ _ _ (H1.out.1.more H2.out.2.1) H2.out.1).mono ?_; rintro e w3 ⟨rfl, q, hw⟩; have H3 := Hid.mk (show More w2 w3 from by rw [hw]; exact More.drewN _ _); clear hw))
        | (go_at_call 20; first
            | (refine (h6 _ _ (H1.out.1.more (More.trans H2.out.2.1 H5.out))).mono ?_; rintro e w6 ⟨rfl, q, hw⟩; have H6 := Hid.mk (show More w2 w6 from by rw [hw]; exact More.trans H5.out (More.drewN _ _)); clear hw)
            | (refine (h4 _ (More.trans H2.out.2.2 H3.out)).mono ?_; rintro e w4 ⟨rfl, q, hw⟩; have H4 := Hid.mk (show More w2 w4 from by rw [hw]; exact More.trans H3.out (More.drewN _ _)); clear hw))
        | (go_at_call 21; refine (h5 _ (More.trans H2.out.2.2 H4.out)).mono ?_; rintro e w5 ⟨rfl, q, hw⟩; have H5 := Hid.mk (show More w2 w5 from by rw [hw]; exact More.trans H4.out (More.drewN _ _)); clear hw)
        | (go_at_call 22; refine (h7 _ _ (H1.out.1.more (More.trans H2.out.2.1 H6.out)) (More.trans H2.out.2.2 H6.out)).mono ?_; rintro e w7 ⟨rfl, hM⟩; have H7 := Hid.mk (More.trans H6.out hM); clear hM)
        | (go_at_call 23; refine (h8 _ _ (H2.out.1.more H7.out) (More.trans H2.out.2.2 H7.out)).mono ?_; rintro e w8 ⟨rfl, q, hw⟩; have H8 := Hid.mk (show More w1 w8 ∧ More w2 w8 ∧ More w w8 from by rw [hw]; have k := More.trans H7.out (More.drewN w7 q); exact ⟨More.trans H2.out.2.1 k, k, More.trans H2.out.2.2 k⟩); clear hw)
        | (go_at_call 7; refine (hlv _).mono ?_; rintro e w11 ⟨rfl, hM⟩; have H11 := Hid.mk (More.trans H10.out hM); clear hM))
      go_ret
      exact ⟨rfl, H11.out⟩
    · clear hl hg hf hs
      generalize L.length = n at *
      generalize g.length = m at *
      go_enter Try.func6, Try.ntmps6
      go_wp2_with (first
        | (go_at_call 16; refine hsm.mono ?_; rintro e w' ⟨rfl, hw'⟩; subst w')
        | (go_at_call 7; refine (hlv _).mono ?_; rintro e w11 ⟨rfl, hM⟩; have H11 := Hid.mk hM; clear hM))
      go_ret
      exact ⟨rfl, H11.out⟩
  · rw [Bool.not_eq_true] at hs
    rw [hs] at hsm
    clear hl hg hf hs
    generalize L.length = n at *
    generalize g.length = m at *
    go_enter Try.func6, Try.ntmps6
    go_wp2_with (first
      | (go_at_call 16; refine hsm.mono ?_; rintro e w' ⟨rfl, hw'⟩; subst w')
      | (go_at_call 7; refine (hlv _).mono ?_; rintro e w11 ⟨rfl, hM⟩; have H11 := Hid.mk hM; clear hM))
    go_ret
    exact ⟨rfl, H11.out⟩
end Go.Proofs.Yteiegedffjkbeaa
