/-
  RowOf and RowSame, walked: rows of words, and when two rows are the same.
-/
import Derived.Test.YtbbnjledicddhaaDoorLawA
namespace Go.Proofs.YtbbnjledicddhaaDoor
open Go.RowKit

theorem Rd.congr {w : World} {v : Value} {K : Nat} {f g : Nat → Nat} (h : Rd w v K f) (e : ∀ j, j < K → f j = g j) : Rd w v K g := by
  rcases h with h | ⟨b, o, cap, rfl, hb, hc⟩
  · exact .inl h
  · exact .inr ⟨b, o, cap, rfl, hb, fun j hj => by rw [← e j hj]; exact hc j hj⟩

/-- There is no row: why. -/
theorem rowOf_short (v : Value) (K : Nat) (f : Nat → Nat) (n : Int) (w : World) (h : Rd w v K f) (hf : ∀ j, j < K → f j < 18446744073709551616) (hK : K ≤ 60) (hT : TabIn w) (n0 : -9223372036854775808 ≤ n) (n1 : n ≤ 9223372036854775807) (hs : n < 0 ∨ K ≠ nw n.toNat) :
    Calls Tryd.prog 5 #[v, .int .i64 n] w fun e w' => e = .returned (.bool true) ∧ Below w.heap.size w w' := by
  have ho := of_short v K n f w h (by omega) n1 hs
  by_cases hout : n < 0 ∨ 64 * (K : Int) < n
  · have hr := ref_of_short v K f n w h (by omega) hout
    have hl := live w hT
    obtain ⟨ao, cap, rfl⟩ := h.shape
    clear h hT hs
    rcases (show n < 0 ∨ (0 ≤ n ∧ 64 * (K : Int) < n) by omega) with hn | ⟨hn, hn2⟩
    all_goals
      clear hout
      go_enter Tryd.func5, Tryd.ntmps5
      go_wp2_with (first
        | (go_at_call 21; refine ho.mono ?_; rintro e w1 ⟨rfl, hw⟩; subst hw)
        | (go_at_call 22; refine hr.mono ?_; rintro e w2 ⟨rfl, hw⟩; subst hw)
        | (go_at_call 7; refine hl.mono ?_; rintro e w3 ⟨rfl, hm⟩))
      go_ret
      exact ⟨rfl, hm⟩
  · obtain ⟨n, rfl⟩ := Int.eq_ofNat_of_zero_le (show 0 ≤ n by omega)
    have hne : K ≠ nw n := by
      rcases hs with hs | hs
      · omega
      · simpa using hs
    have hr := ref_of v K n f w h hf (by omega) (by omega)
    obtain ⟨ao, cap, rfl⟩ := h.shape
    have h1 : (n : Int) ≤ 64 * (K : Int) := by omega
    have h2 : (n : Int) ≤ 64 * ((K : Int) - 1) := by unfold nw at hne; omega
    have h0 : (0 : Int) ≤ n := by omega
    have HT : Hid _ := hT
    clear h hT hs hout
    go_enter Tryd.func5, Tryd.ntmps5
    go_wp2_with (first
      | (go_at_call 21; refine ho.mono ?_; rintro e w1 ⟨rfl, hw⟩; subst hw)
      | (go_at_call 22; refine hr.mono ?_; rintro e w2 ⟨v2, r, rfl, hown2, hr2, hm2⟩; (obtain rfl : r = false := by (cases r; rfl; exact absurd (hr2.1 rfl).1 hne)); have H2 := Hid.mk (And.intro hown2 hm2); clear hown2 hm2 hr2; obtain ⟨ao2, cap2, rfl⟩ := shape_of H2.out.1)
      | (go_at_call 7; refine (live _ (More.tab HT.out H2.out.2)).mono ?_; rintro e w3 ⟨rfl, hm⟩; have H3 := Hid.mk hm; clear hm))
    go_ret
    exact ⟨rfl, More.trans H2.out.2 H3.out⟩

theorem rowOf_form (v : Value) (K n : Nat) (f : Nat → Nat) (w : World) (h : Rd w v K f) (hf : ∀ j, j < K → f j < 18446744073709551616) (hK : K ≤ 60) (hT : TabIn w) (hKn : K = nw n) (hfit : ¬ ofW f K < 2 ^ n) :
    Calls Tryd.prog 5 #[v, .int .i64 n] w fun e w' => e = .returned (.bool true) ∧ Below w.heap.size w w' := by
  have hn : n ≤ 64 * K := by unfold nw at hKn; omega
  have ho := of_form v K n f w h hf (by omega) hKn hfit
  have hr := fun m => ref_of v K n f (w.drewN m) (rd_drewN h m) hf (by omega) hn
  obtain ⟨ao, cap, rfl⟩ := h.shape
  have h1 : (n : Int) ≤ 64 * (K : Int) := by omega
  have h2 : 64 * ((K : Int) - 1) < (n : Int) := by unfold nw at hKn; omega
  have h0 : (0 : Int) ≤ n := by omega
  have HT : Hid _ := hT
  clear h hT hKn
  go_enter Tryd.func5, Tryd.ntmps5
  go_wp2_with (first
    | (go_at_call 21; refine ho.mono ?_; rintro e w1 ⟨rfl, m1, rfl⟩)
    | (go_at_call 22; refine (hr _).mono ?_; rintro e w2 ⟨v2, r, rfl, hown2, hr2, hm2⟩; (obtain rfl : r = false := by (cases r; rfl; exact absurd (hr2.1 rfl).2 hfit)); have H2 := Hid.mk (And.intro hown2 (More.trans (More.drewN _ _) hm2)); clear hown2 hm2 hr2; obtain ⟨ao2, cap2, rfl⟩ := shape_of H2.out.1)
    | (go_at_call 7; refine (live _ (More.tab HT.out H2.out.2)).mono ?_; rintro e w3 ⟨rfl, hm⟩; have H3 := Hid.mk hm; clear hm))
  go_ret
  refine ⟨?_, More.trans H2.out.2 H3.out⟩
  have e1 : decide ((n : Int) < 0) = false := by simp
  have e2 : decide (64 * (K : Int) < (n : Int)) = false := by simp; omega
  have e3 : decide ((n : Int) ≤ 64 * ((K : Int) - 1)) = false := by simp; omega
  simp [e1, e2, e3]

set_option maxRecDepth 1000000 in
theorem rowOf_row (v : Value) (K n : Nat) (f : Nat → Nat) (w : World) (h : Rd w v K f) (hf : ∀ j, j < K → f j < 18446744073709551616) (hK : K ≤ 60) (hT : TabIn w) (hKn : K = nw n) (hfit : ofW f K < 2 ^ n) :
    Calls Tryd.prog 5 #[v, .int .i64 n] w fun e w' => e = .returned (.bool true) ∧ Below w.heap.size w w' := by
  have hn : n ≤ 64 * K := by unfold nw at hKn; omega
  have ho := of_row v K n f w h hf (by omega) hKn hfit
  have hr := fun (w' : World) (hm : More w w') => ref_of v K n f w' (h.more hm) hf (by omega) hn
  obtain ⟨ao, cap, rfl⟩ := h.shape
  have HT : Hid _ := And.intro hT (And.intro h (And.intro hKn (And.intro hfit hf)))
  have hmod := Nat.mod_eq_of_lt hfit
  rw [hmod] at hr
  have hRd : ∀ w', More w w' → Rd w' (.slice ao K cap) (nw n) (wd (ofW f K)) := fun w' hm => by
    rw [← hKn]
    exact (h.more hm).congr fun j hj => (ofW_wd f K hf j hj).symm
  have HRd : Hid _ := hRd
  generalize hW : ofW f K = W at *
  clear h hT hKn hfit hf hRd hmod hW
  go_enter Tryd.func5, Tryd.ntmps5
  go_wp2_with (first
    | (go_at_call 21; refine ho.mono ?_; rintro e w1 ⟨b, rfl, hrow, hk1⟩; have H1 := Hid.mk (And.intro hrow hk1.more); clear hrow hk1)
    | (go_at_call 22; refine (hr _ H1.out.2).mono ?_; rintro e w2 ⟨v2, r, rfl, hown2, hr2, hm2⟩; (obtain rfl : r = true := hr2.2 ⟨HT.out.2.2.1, HT.out.2.2.2.1⟩); have H2 := Hid.mk (And.intro hown2 (And.intro (More.trans H1.out.2 hm2) (More.row H1.out.1 hm2))); clear hown2 hm2 hr2; obtain ⟨ao2, cap2, rfl⟩ := shape_of H2.out.1)
    | (go_at_call 9; refine (row_len b n _ H2.out.2.2.rd.c1).mono ?_; rintro e w3 ⟨rfl, hw⟩; subst hw)
    | (go_at_call 11; refine (row_words _ b W n _ H2.out.2.2).mono ?_; rintro e w4 ⟨v4, rfl, hown4, hk4⟩; have H4 := Hid.mk (And.intro hown4 hk4.more); clear hown4 hk4; obtain ⟨ao4, cap4, rfl⟩ := shape_of H4.out.1)
    | (go_at_call 10; refine (same_as _ _ (nw n) (wd W) _ (rd_of_own H4.out.1) (HRd.out _ (More.trans H2.out.2.1 H4.out.2)) (by unfold nw; omega)).mono ?_; rintro e w5 ⟨rfl, m5, rfl⟩)
    | (go_at_call 17; refine (row_ones b W n _ (RowRd.drewN (More.row H2.out.2.2 H4.out.2).rd _)).mono ?_; rintro e w6 ⟨rfl, hw⟩; subst hw)
    | (go_at_call 18; refine (ref_ones _ n W _ (BRd.more (brd_of_own H2.out.1) (More.trans H4.out.2 (More.drewN _ _))) (by omega)).mono ?_; rintro e w7 ⟨rfl, hw⟩; subst hw)
    | (go_at_call 23; refine (same_rows b W n b W n _ (RowRd.drewN (More.row H2.out.2.2 H4.out.2).rd _) (RowRd.drewN (More.row H2.out.2.2 H4.out.2).rd _)).mono ?_; rintro e w8 ⟨rfl, m8, rfl⟩)
    | (go_at_call 7; refine (live _ (More.tab HT.out.1 (More.trans (More.trans H2.out.2.1 H4.out.2) (More.drewN _ _)))).mono ?_; rintro e w9 ⟨rfl, hm⟩; have H9 := Hid.mk hm; clear hm))
  go_ret
  exact ⟨rfl, More.trans (More.trans (More.trans H2.out.2.1 H4.out.2) (More.drewN _ _)) H9.out⟩

theorem rowOf (v : Value) (K : Nat) (f : Nat → Nat) (n : Int) (w : World) (h : Rd w v K f) (hf : ∀ j, j < K → f j < 18446744073709551616) (hK : K ≤ 9223372036854775807) (hT : TabIn w) (n0 : -9223372036854775808 ≤ n) (n1 : n ≤ 9223372036854775807) :
    Calls Tryd.prog 5 #[v, .int .i64 n] w fun e w' => e = .returned (.bool true) ∧ Below w.heap.size w w' := by
  by_cases hbig : 60 < K
  · obtain ⟨ao, cap, rfl⟩ := h.shape
    have hl := live w hT
    clear h hT hf
    go_enter Tryd.func5, Tryd.ntmps5
    go_wp2_with (go_at_call 7; refine hl.mono ?_; rintro e w' ⟨rfl, hm⟩)
    go_ret
    exact ⟨rfl, hm⟩
  · by_cases hs : n < 0 ∨ K ≠ nw n.toNat
    · exact rowOf_short v K f n w h hf (by omega) hT n0 n1 hs
    · obtain ⟨n, rfl⟩ := Int.eq_ofNat_of_zero_le (show 0 ≤ n by omega)
      have hKn : K = nw n := by
        apply Classical.byContradiction
        intro hh
        exact hs (.inr (by simpa using hh))
      by_cases hfit : ofW f K < 2 ^ n
      · exact rowOf_row v K n f w h hf (by omega) hT hKn hfit
      · exact rowOf_form v K n f w h hf (by omega) hT hKn hfit

end Go.Proofs.YtbbnjledicddhaaDoor
