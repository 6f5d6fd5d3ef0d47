/-
  Law 18: GramCompares, GramParses, GramKeys.
-/
import Derived.Test.YteiegedffjkbeaaGraLawA
namespace Go.Proofs.Yteiegedffjkbeaa
open Go.RowKit

set_option maxRecDepth 1000000 in
set_option maxHeartbeats 4000000 in
theorem law_compares (va vb : Value) (a b : List Int) (w : World) (ha : IL w va a) (hb : IL w vb b) :
    Calls Try.prog 3 #[va, vb] w fun e w' => e = .returned (.bool true) ∧ More w w' := by
  have hlv := live_true
  obtain ⟨ao, ca, rfl⟩ := ha.shape
  obtain ⟨bo, cb, rfl⟩ := hb.shape
  by_cases hbig : a.length ≤ 1000 ∧ b.length ≤ 1000
  · obtain ⟨hn, hm⟩ := hbig
    have hg := fun (W : World) (h : More w W) => gr_cmp _ _ a b W (ha.more h) (hb.more h) (by omega) (by omega)
    have hr := fun (W : World) (h : More w W) => rf_cmp _ _ a b W (ha.more h) (hb.more h) (by omega) (by omega)
    have hh := fun (W : World) (h : More w W) => gr_behind _ _ a b W (ha.more h) (hb.more h) (by omega) (by omega)
    have ht := fun (W : World) (h : More w W) => rf_turned _ a W (ha.more h) (by omega)
    have hu := fun (W : World) (h : More w W) => rf_turned _ b W (hb.more h) (by omega)
    have hs := fun (W : World) (x y : Value) (h : IL W x a.reverse) (k : IL W y b.reverse) => rf_cmp x y _ _ W h k (by rw [rev_len]; omega) (by rw [rev_len]; omega)
    have HL := Hid.mk (And.intro (rev_len a) (rev_len b))
    generalize cmpL a b = C at *
    generalize cmpL a.reverse b.reverse = D at *
    generalize a.reverse = a' at *
    generalize b.reverse = b' at *
    clear ha hb
    generalize a.length = n at *
    generalize b.length = m at *
    go_enter Try.func3, Try.ntmps3
    go_wp2_with (first
      | (go_at_call 8; refine (hg _ (More.refl _)).mono ?_; rintro e w' ⟨rfl, hw'⟩; subst w')
      | (go_at_call 10; refine (hh _ H1.out).mono ?_; rintro e w2 ⟨rfl, q, hw⟩; have H2 := Hid.mk (show More w w2 from by rw [hw]; exact More.trans H1.out (More.drewN _ _)); clear hw)
      | (go_at_call 9; first
          | (refine (hs _ _ _ (H3.out.1.il.more H4.out.2.1) H4.out.1.il).mono ?_; rintro e w5 ⟨rfl, q, hw⟩; have H5 := Hid.mk (show More w w5 from by rw [hw]; exact More.trans H4.out.2.2 (More.drewN _ _)); clear hw)
          | (refine (hr _ (More.refl _)).mono ?_; rintro e w1 ⟨rfl, q, hw⟩; have H1 := Hid.mk (show More w w1 from by rw [hw]; exact More.drewN _ _); clear hw))
      | (go_at_call 11; first
          | (refine (hu _ H3.out.2).mono ?_; rintro e w4 ⟨v4, rfl, hN, hM⟩; have H4 := Hid.mk (And.intro hN (And.intro hM (More.trans H3.out.2 hM))); obtain ⟨xo4, xc4, rfl⟩ := hN.shape; clear hN hM)
          | (refine (ht _ H2.out).mono ?_; rintro e w3 ⟨v3, rfl, hN, hM⟩; have H3 := Hid.mk (And.intro hN (More.trans H2.out hM)); obtain ⟨xo3, xc3, rfl⟩ := hN.shape; clear hN hM))
      | (go_at_call 7; refine (hlv _).mono ?_; rintro e w6 ⟨rfl, hM⟩; have H6 := Hid.mk (More.trans H5.out hM); clear hM))
    go_ret
    exact ⟨rfl, H6.out⟩
  · generalize a.length = n at *
    generalize b.length = m at *
    clear ha hb
    by_cases h1 : n ≤ 1000
    · have h2 : ¬ m ≤ 1000 := fun h => hbig ⟨h1, h⟩
      clear hbig
      go_enter Try.func3, Try.ntmps3
      go_wp2_with (go_at_call 7; refine (hlv _).mono ?_; rintro e w6 ⟨rfl, hM⟩; have H6 := Hid.mk hM; clear hM)
      go_ret
      exact ⟨rfl, H6.out⟩
    · clear hbig
      go_enter Try.func3, Try.ntmps3
      go_wp2_with (go_at_call 7; refine (hlv _).mono ?_; rintro e w6 ⟨rfl, hM⟩; have H6 := Hid.mk hM; clear hM)
      go_ret
      exact ⟨rfl, H6.out⟩

set_option maxRecDepth 1000000 in
set_option maxHeartbeats 4000000 in
theorem law_parses (s : List UInt8) (w : World) :
    Calls Try.prog 5 #[.string (bs s)] w fun e w' => e = .returned (.bool true) ∧ More w w' := by
  have hlv := live_true
  have hsz := bs_size s
  by_cases hbig : s.length ≤ 300
  · by_cases h3 : s.length % 3 = 0
    · obtain ⟨m, hm⟩ : ∃ m, s.length = 3 * m := ⟨s.length / 3, by omega⟩
      obtain ⟨k1, k2, k3⟩ := key_prs m s hm
      have hp := gr_parse s m w (by omega) hm
      have hk := fun (W : World) (v : Value) (h : IL W v (prs s)) => rf_key v (prs s) W h (by omega)
      rw [k2, if_pos rfl, k1] at hk
      have HL := Hid.mk k3
      generalize prs s = g at *
      obtain ⟨n, hn⟩ : ∃ n, s.length = n := ⟨_, rfl⟩
      rw [hn] at hsz hbig hm
      have hmr : ((n : Int) % 3 != 0) = false := by simp; omega
      have hmq : (n : Int) / 3 = m := by omega
      clear k1 k2 k3 hn h3 hm
      generalize bs s = S at *
      go_enter Try.func5, Try.ntmps5
      go_wp2_with (first
        | (go_at_call 14; refine hp.mono ?_; rintro e w1 ⟨r, rfl, hN, hM⟩; have H1 := Hid.mk (And.intro hN hM); obtain ⟨xo, xc, hv⟩ := hN.shape; rw [HL.out] at hv; subst hv; clear hN hM)
        | (go_at_call 13; refine (hk _ _ H1.out.1.il).mono ?_; rintro e w2 ⟨rfl, hM⟩; have H2 := Hid.mk (More.trans H1.out.2 hM); clear hM)
        | (go_at_call 7; refine (hlv _).mono ?_; rintro e w6 ⟨rfl, hM⟩; have H6 := Hid.mk (More.trans H2.out hM); clear hM))
      go_ret
      exact ⟨rfl, H6.out⟩
    · have hp := gr_parse_bad s w (by omega) h3
      obtain ⟨n, hn⟩ : ∃ n, s.length = n := ⟨_, rfl⟩
      rw [hn] at hsz hbig h3
      have hmr : ((n : Int) % 3 != 0) = true := by simp; omega
      clear hn h3
      generalize bs s = S at *
      go_enter Try.func5, Try.ntmps5
      go_wp2_with (first
        | (go_at_call 14; refine hp.mono ?_; rintro e w' ⟨rfl, hw'⟩; subst w')
        | (go_at_call 7; refine (hlv _).mono ?_; rintro e w6 ⟨rfl, hM⟩; have H6 := Hid.mk hM; clear hM))
      go_ret
      exact ⟨rfl, H6.out⟩
  · obtain ⟨n, hn⟩ : ∃ n, s.length = n := ⟨_, rfl⟩
    rw [hn] at hsz hbig
    generalize bs s = S at *
    clear hn
    go_enter Try.func5, Try.ntmps5
    go_wp2_with (go_at_call 7; refine (hlv _).mono ?_; rintro e w6 ⟨rfl, hM⟩; have H6 := Hid.mk hM; clear hM)
    go_ret
    exact ⟨rfl, H6.out⟩

theorem bs_toL (l : List UInt8) : (bs l).toList = l := by rw [ByteArray.toList_eq]; simp [bs]
set_option maxRecDepth 1000000 in
set_option maxHeartbeats 6000000 in
theorem law_keys (va vb : Value) (a b : List Int) (w : World) (ha : IL w va a) (hb : IL w vb b) :
    Calls Try.prog 4 #[va, vb] w fun e w' => e = .returned (.bool true) ∧ More w w' := by
  have hlv := live_true
  obtain ⟨ao, ca, rfl⟩ := ha.shape
  obtain ⟨bo, cb, rfl⟩ := hb.shape
  by_cases hbig : a.length ≤ 100 ∧ b.length ≤ 100
  · obtain ⟨hn, hm⟩ := hbig
    have hrk := fun (W : World) (h : More w W) => rf_key _ a W (ha.more h) (by omega)
    cases hoa : okG a with
    | false =>
      have hgk := gr_key_bad _ a w ha (by omega) hoa
      rw [hoa, if_neg (by decide)] at hrk
      have hb0 := bs_toL []
      generalize a.length = n at *
      generalize b.length = m at *
      clear ha hb hoa
      generalize bs [] = S0 at *
      go_enter Try.func4, Try.ntmps4
      go_wp2_with (first
        | (go_at_call 12; refine hgk.mono ?_; rintro e w' ⟨rfl, hw'⟩; subst w')
        | (go_at_call 13; refine (hrk _ (More.refl _)).mono ?_; rintro e w2 ⟨rfl, hM⟩; have H2 := Hid.mk hM; clear hM)
        | (go_at_call 7; refine (hlv _).mono ?_; rintro e w6 ⟨rfl, hM⟩; have H6 := Hid.mk (More.trans H2.out hM); clear hM))
      go_ret
      exact ⟨rfl, H6.out⟩
    | true =>
      have hgk := gr_key _ a w ha (by omega) hoa
      rw [hoa, if_pos rfl] at hrk
      have hps := fun (W : World) => gr_parse (keyL a) a.length W (by rw [keyL_len]; omega) (keyL_len a)
      rw [prs_key a hoa] at hps
      have his := fun (W : World) (v : Value) (h : IL W v a) (k : More w W) => rf_intsD v _ a a W h (ha.more k) (by omega)
      simp only [decide_true] at his
      cases hob : okG b with
      | false =>
        have hgb := fun (W : World) (h : More w W) => gr_key_bad _ b W (hb.more h) (by omega) hob
        generalize keyL a = K at *
        obtain ⟨n, hna⟩ : ∃ n, a.length = n := ⟨_, rfl⟩
        have HL := Hid.mk hna
        rw [hna] at hn hrk hgk his ⊢
        generalize b.length = m at *
        clear ha hb hoa hob hna
        generalize bs K = S at *
        go_enter Try.func4, Try.ntmps4
        go_wp2_with (first
          | (go_at_call 12; first
              | (refine (hgb _ H4.out).mono ?_; rintro e w' ⟨rfl, hw'⟩; subst w')
              | (refine hgk.mono ?_; rintro e w1 ⟨rfl, hM⟩; have H1 := Hid.mk hM; clear hM))
          | (go_at_call 13; refine (hrk _ H1.out).mono ?_; rintro e w2 ⟨rfl, hM⟩; have H2 := Hid.mk (More.trans H1.out hM); clear hM)
          | (go_at_call 14; refine (hps _).mono ?_; rintro e w3 ⟨r, rfl, hN, hM⟩; have H3 := Hid.mk (And.intro hN (More.trans H2.out hM)); obtain ⟨xo, xc, hv⟩ := hN.shape; rw [HL.out] at hv; subst hv; clear hN hM)
          | (go_at_call 15; refine (his _ _ H3.out.1.il H3.out.2).mono ?_; rintro e w4 ⟨rfl, q, hw⟩; have H4 := Hid.mk (show More w w4 from by rw [hw]; exact More.trans H3.out.2 (More.drewN _ _)); clear hw)
          | (go_at_call 7; refine (hlv _).mono ?_; rintro e w6 ⟨rfl, hM⟩; have H6 := Hid.mk (More.trans H4.out hM); clear hM))
        go_ret
        exact ⟨rfl, H6.out⟩
      | true =>
        have hgb := fun (W : World) (h : More w W) => gr_key _ b W (hb.more h) (by omega) hob
        have hcm := fun (W : World) (h : More w W) => rf_cmp _ _ a b W (ha.more h) (hb.more h) (by omega) (by omega)
        by_cases hlen : a.length = b.length
        · have hls : Op.bytesLess (bs (keyL a)).toList (bs (keyL b)).toList = decide (cmpL a b < 0) := by rw [bs_toL, bs_toL]; exact key_less a b hlen hoa hob
          have heq : ((bs (keyL a)).toList == (bs (keyL b)).toList) = decide (cmpL a b = 0) := by
            rw [bs_toL, bs_toL]
            by_cases e : cmpL a b = 0
            · rw [decide_eq_true e, (key_same hoa hob).2 e]; exact beq_self_eq_true _
            · rw [decide_eq_false e]
              exact beq_eq_false_iff_ne.2 fun e' => e ((key_same hoa hob).1 e')
          have hrng := cmpL_rng a b
          generalize keyL a = K at *
          generalize keyL b = L at *
          generalize cmpL a b = C at *
          obtain ⟨n, hna⟩ : ∃ n, a.length = n := ⟨_, rfl⟩
          have HL := Hid.mk hna
          rw [← hlen] at hgb hcm ⊢
          rw [hna] at hn hrk hgk his hgb hcm ⊢
          clear ha hb hoa hob hna hlen hm
          generalize bs K = S at *
          generalize bs L = T at *
          rcases hrng with rfl | rfl | rfl
          all_goals
            first
              | (rw [show decide ((-1 : Int) < 0) = true by decide] at hls; rw [show decide ((-1 : Int) = 0) = false by decide] at heq)
              | (rw [show decide ((0 : Int) < 0) = false by decide] at hls; rw [show decide ((0 : Int) = 0) = true by decide] at heq)
              | (rw [show decide ((1 : Int) < 0) = false by decide] at hls; rw [show decide ((1 : Int) = 0) = false by decide] at heq)
            go_enter Try.func4, Try.ntmps4
            go_wp2_with (first
              | (go_at_call 12; first
                  | (refine (hgb _ H4.out).mono ?_; rintro e w5 ⟨rfl, hM⟩; have H5 := Hid.mk (More.trans H4.out hM); clear hM)
                  | (refine hgk.mono ?_; rintro e w1 ⟨rfl, hM⟩; have H1 := Hid.mk hM; clear hM))
              | (go_at_call 13; refine (hrk _ H1.out).mono ?_; rintro e w2 ⟨rfl, hM⟩; have H2 := Hid.mk (More.trans H1.out hM); clear hM)
              | (go_at_call 14; refine (hps _).mono ?_; rintro e w3 ⟨r, rfl, hN, hM⟩; have H3 := Hid.mk (And.intro hN (More.trans H2.out hM)); obtain ⟨xo, xc, hv⟩ := hN.shape; rw [HL.out] at hv; subst hv; clear hN hM)
              | (go_at_call 15; refine (his _ _ H3.out.1.il H3.out.2).mono ?_; rintro e w4 ⟨rfl, q, hw⟩; have H4 := Hid.mk (show More w w4 from by rw [hw]; exact More.trans H3.out.2 (More.drewN _ _)); clear hw)
              | (go_at_call 9; first
                  | (refine (hcm _ H7.out).mono ?_; rintro e w8 ⟨rfl, q, hw⟩; have H8 := Hid.mk (show More w w8 from by rw [hw]; exact More.trans H7.out (More.drewN _ _)); clear hw)
                  | (refine (hcm _ H5.out).mono ?_; rintro e w7 ⟨rfl, q, hw⟩; have H7 := Hid.mk (show More w w7 from by rw [hw]; exact More.trans H5.out (More.drewN _ _)); clear hw))
              | (go_at_call 7; refine (hlv _).mono ?_; rintro e w6 ⟨rfl, hM⟩; have H6 := Hid.mk (More.trans H8.out hM); clear hM))
            go_ret
            exact ⟨rfl, H6.out⟩
        · generalize keyL a = K at *
          generalize keyL b = L at *
          clear hcm
          obtain ⟨n, hna⟩ : ∃ n, a.length = n := ⟨_, rfl⟩
          have HL := Hid.mk hna
          rw [hna] at hn hrk hgk his hlen ⊢
          generalize b.length = m at *
          have hne : ((n : Int) != (m : Int)) = true := by simp; omega
          clear ha hb hoa hob hna
          generalize bs K = S at *
          generalize bs L = T at *
          go_enter Try.func4, Try.ntmps4
          go_wp2_with (first
            | (go_at_call 12; first
                | (refine (hgb _ H4.out).mono ?_; rintro e w5 ⟨rfl, hM⟩; have H5 := Hid.mk (More.trans H4.out hM); clear hM)
                | (refine hgk.mono ?_; rintro e w1 ⟨rfl, hM⟩; have H1 := Hid.mk hM; clear hM))
            | (go_at_call 13; refine (hrk _ H1.out).mono ?_; rintro e w2 ⟨rfl, hM⟩; have H2 := Hid.mk (More.trans H1.out hM); clear hM)
            | (go_at_call 14; refine (hps _).mono ?_; rintro e w3 ⟨r, rfl, hN, hM⟩; have H3 := Hid.mk (And.intro hN (More.trans H2.out hM)); obtain ⟨xo, xc, hv⟩ := hN.shape; rw [HL.out] at hv; subst hv; clear hN hM)
            | (go_at_call 15; refine (his _ _ H3.out.1.il H3.out.2).mono ?_; rintro e w4 ⟨rfl, q, hw⟩; have H4 := Hid.mk (show More w w4 from by rw [hw]; exact More.trans H3.out.2 (More.drewN _ _)); clear hw)
            | (go_at_call 7; refine (hlv _).mono ?_; rintro e w6 ⟨rfl, hM⟩; have H6 := Hid.mk (More.trans H5.out hM); clear hM))
          go_ret
          exact ⟨rfl, H6.out⟩
  · generalize a.length = n at *
    generalize b.length = m at *
    clear ha hb
    by_cases h1 : n ≤ 100
    · have h2 : ¬ m ≤ 100 := fun h => hbig ⟨h1, h⟩
      clear hbig
      go_enter Try.func4, Try.ntmps4
      go_wp2_with (go_at_call 7; refine (hlv _).mono ?_; rintro e w6 ⟨rfl, hM⟩; have H6 := Hid.mk hM; clear hM)
      go_ret
      exact ⟨rfl, H6.out⟩
    · clear hbig
      go_enter Try.func4, Try.ntmps4
      go_wp2_with (go_at_call 7; refine (hlv _).mono ?_; rintro e w6 ⟨rfl, hM⟩; have H6 := Hid.mk hM; clear hM)
      go_ret
      exact ⟨rfl, H6.out⟩
end Go.Proofs.Yteiegedffjkbeaa
