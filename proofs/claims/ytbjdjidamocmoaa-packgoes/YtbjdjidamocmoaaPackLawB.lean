/-
  PackOf, walked.
-/
import Derived.Test.YtbjdjidamocmoaaPackLawA
namespace Go.Proofs.Ytbjdjidamocmoaa
open Go.RowKit

theorem packOf_bad (v : Value) (K : Nat) (f : Nat → Nat) (d n : Int) (w : World) (h : Rd w v K f) (hK : K ≤ 40) (hd : ¬ (0 ≤ d ∧ d ≤ 64) ∨ n < 0 ∨ 67108864 < n) :
    Calls Try.prog 4 #[.int .i64 d, .int .i64 n, v] w fun e w' => e = .returned (.bool true) ∧ Below w.heap.size w w' := by
  have ho := of_bad v d n w hd
  have hl := live w
  obtain ⟨ao, cap, rfl⟩ := h.shape
  clear h
  rcases (show d < 0 ∨ (0 ≤ d ∧ 64 < d) ∨ (0 ≤ d ∧ d ≤ 64 ∧ n < 0) ∨ (0 ≤ d ∧ d ≤ 64 ∧ 0 ≤ n ∧ 67108864 < n) by omega) with h1 | ⟨h1, h2⟩ | ⟨h1, h2, h3⟩ | ⟨h1, h2, h3, h4⟩
  all_goals
    clear hd
    go_enter Try.func4, Try.ntmps4
    go_wp2_with (first
      | (go_at_call 16; refine ho.mono ?_; rintro e w1 ⟨rfl, hw⟩; subst w1)
      | (go_at_call 7; refine hl.mono ?_; rintro e w2 ⟨rfl, hm⟩; have H2 := Hid.mk hm; clear hm))
    go_ret
    exact ⟨rfl, H2.out⟩

theorem atV_zero (d n : Nat) (i : Int) : atV 0 d n i = 0 := by
  unfold atV
  split <;> simp

set_option maxRecDepth 1000000 in
theorem packOf_none (v : Value) (K d n : Nat) (f : Nat → Nat) (w : World) (h : Rd w v K f) (hK : K ≤ 40) (hd : d ≤ 64) (hn : n ≤ 67108864) (h0 : d = 0 ∨ n = 0) :
    Calls Try.prog 4 #[.int .i64 d, .int .i64 n, v] w fun e w' => e = .returned (.bool true) ∧ Below w.heap.size w w' := by
  have hM : d * n = 0 := by rcases h0 with rfl | rfl <;> simp
  have hl := live
  by_cases hK0 : K = 0
  · have ho := pof_pack v K d n f w h (fun j hj => by omega) hd hn (by rw [hM]; exact hK0) (by rw [hM, hK0]; exact Nat.zero_lt_one)
    rw [show ofW f K = 0 by rw [hK0]; rfl] at ho
    obtain ⟨ao, cap, rfl⟩ := h.shape
    subst hK0
    clear h hM
    rcases (show (d : Int) = 0 ∨ ((d : Int) ≠ 0 ∧ (n : Int) = 0) by omega) with h1 | ⟨h1, h2⟩
    · obtain rfl : d = 0 := by omega
      clear h0 h1
      go_enter Try.func4, Try.ntmps4
      go_wp2_with (first
        | (go_at_call 16; refine ho.mono ?_; rintro e w1 ⟨p, rfl, hp, hm⟩; have H1 := Hid.mk (And.intro hp hm); clear hp hm)
        | (go_at_call 13; refine (pack_len p _ _ _ _ H1.out.1.rd).mono ?_; rintro e w2 ⟨rfl, hw⟩; subst w2)
        | (go_at_call 14; refine (pack_width p _ _ _ _ H1.out.1.rd).mono ?_; rintro e w2 ⟨rfl, hw⟩; subst w2)
        | (go_at_call 12; refine (pack_at p _ _ _ 0 _ H1.out.1.rd).mono ?_; rw [atV_zero]; rintro e w2 ⟨rfl, m2, hw⟩; subst w2)
        | (go_at_call 7; refine (hl _).mono ?_; rintro e w2 ⟨rfl, hm⟩; have H2 := Hid.mk (More.trans H1.out.2 (More.trans (More.drewN _ _) hm)); clear hm))
      go_ret
      exact ⟨rfl, H2.out⟩
    · obtain rfl : n = 0 := by omega
      have hb0 : ((d : Int) == 0) = false := by simpa using h1
      clear h0 h2
      go_enter Try.func4, Try.ntmps4
      go_wp2_with (first
        | (go_at_call 16; refine ho.mono ?_; rintro e w1 ⟨p, rfl, hp, hm⟩; have H1 := Hid.mk (And.intro hp hm); clear hp hm)
        | (go_at_call 13; refine (pack_len p _ _ _ _ H1.out.1.rd).mono ?_; rintro e w2 ⟨rfl, hw⟩; subst w2)
        | (go_at_call 14; refine (pack_width p _ _ _ _ H1.out.1.rd).mono ?_; rintro e w2 ⟨rfl, hw⟩; subst w2)
        | (go_at_call 12; refine (pack_at p _ _ _ 0 _ H1.out.1.rd).mono ?_; rw [atV_zero]; rintro e w2 ⟨rfl, m2, hw⟩; subst w2)
        | (go_at_call 7; refine (hl _).mono ?_; rintro e w2 ⟨rfl, hm⟩; have H2 := Hid.mk (More.trans H1.out.2 (More.trans (More.drewN _ _) hm)); clear hm))
      go_ret
      exact ⟨rfl, H2.out⟩
  · have ho := pof_short v K d n f w h (by omega) hd hn (by rw [hM]; exact hK0)
    obtain ⟨ao, cap, rfl⟩ := h.shape
    have hKp : (0 : Int) < K := by omega
    clear h hM
    rcases (show (d : Int) = 0 ∨ ((d : Int) ≠ 0 ∧ (n : Int) = 0) by omega) with h1 | ⟨h1, h2⟩
    · obtain rfl : d = 0 := by omega
      clear h0 h1
      go_enter Try.func4, Try.ntmps4
      go_wp2_with (first
        | (go_at_call 16; refine ho.mono ?_; rintro e w1 ⟨rfl, hw⟩; subst w1)
        | (go_at_call 7; refine (hl _).mono ?_; rintro e w2 ⟨rfl, hm⟩; have H2 := Hid.mk hm; clear hm))
      go_ret
      exact ⟨rfl, H2.out⟩
    · obtain rfl : n = 0 := by omega
      have hb0 : ((d : Int) == 0) = false := by simpa using h1
      clear h0 h2
      go_enter Try.func4, Try.ntmps4
      go_wp2_with (first
        | (go_at_call 16; refine ho.mono ?_; rintro e w1 ⟨rfl, hw⟩; subst w1)
        | (go_at_call 7; refine (hl _).mono ?_; rintro e w2 ⟨rfl, hm⟩; have H2 := Hid.mk hm; clear hm))
      go_ret
      exact ⟨rfl, H2.out⟩

set_option maxHeartbeats 3200000 in
theorem packOf_short (v : Value) (K d n : Nat) (f : Nat → Nat) (w : World) (h : Rd w v K f) (hK : K ≤ 40) (hd : d ≤ 64) (hn : n ≤ 67108864) (hd0 : 0 < d) (hn0 : 0 < n) (hs : K ≠ nw (d * n)) :
    Calls Try.prog 4 #[.int .i64 d, .int .i64 n, v] w fun e w' => e = .returned (.bool true) ∧ Below w.heap.size w w' := by
  have ho := pof_short v K d n f w h (by omega) hd hn hs
  have hl := live w
  obtain ⟨ao, cap, rfl⟩ := h.shape
  obtain ⟨M, hM⟩ : ∃ M, d * n = M := ⟨_, rfl⟩
  obtain ⟨hMb, hMi, _, hMw⟩ := mul_fits d n M hd hn hM
  have hnM : n ≤ M := by rw [← hM]; exact Nat.le_mul_of_pos_left n hd0
  rw [hM] at hs
  have hb0 : ((d : Int) == 0) = false := by simp; omega
  have hb1 : ((n : Int) == 0) = false := by simp; omega
  have hcase : (n : Int) > 64 * (K : Int) ∨ ((n : Int) ≤ 64 * (K : Int) ∧ (M : Int) > 64 * (K : Int)) ∨ ((n : Int) ≤ 64 * (K : Int) ∧ (M : Int) ≤ 64 * (K : Int) ∧ (M : Int) ≤ 64 * (K : Int) - 64) := by
    unfold nw at hs; omega
  clear h hM hs
  rcases hcase with h1 | ⟨h1, h2⟩ | ⟨h1, h2, h3⟩
  all_goals
    go_enter Try.func4, Try.ntmps4
    go_wp2_with (first
      | (go_at_call 16; refine ho.mono ?_; rintro e w1 ⟨rfl, hw⟩; subst w1)
      | (go_at_call 7; refine hl.mono ?_; rintro e w2 ⟨rfl, hm⟩; have H2 := Hid.mk hm; clear hm))
    go_ret
    exact ⟨rfl, H2.out⟩

set_option maxHeartbeats 3200000 in
set_option maxRecDepth 1000000 in
theorem packOf_words (v : Value) (K d n : Nat) (f : Nat → Nat) (w : World) (h : Rd w v K f) (hf : ∀ j, j < K → f j < 18446744073709551616) (hK : K ≤ 40) (hd : d ≤ 64) (hn : n ≤ 67108864) (hd0 : 0 < d) (hn0 : 0 < n) (hs : K = nw (d * n)) :
    Calls Try.prog 4 #[.int .i64 d, .int .i64 n, v] w fun e w' => e = .returned (.bool true) ∧ Below w.heap.size w w' := by
  have hl := live
  obtain ⟨M, hM⟩ : ∃ M, d * n = M := ⟨_, rfl⟩
  obtain ⟨hMb, hMi, _, hMw⟩ := mul_fits d n M hd hn hM
  have hnM : n ≤ M := by rw [← hM]; exact Nat.le_mul_of_pos_left n hd0
  have hb0 : ((d : Int) == 0) = false := by simp; omega
  have hb1 : ((n : Int) == 0) = false := by simp; omega
  have h1 : (n : Int) ≤ 64 * (K : Int) := by rw [hM] at hs; unfold nw at hs; omega
  have h2 : (M : Int) ≤ 64 * (K : Int) := by rw [hM] at hs; unfold nw at hs; omega
  have h3 : 64 * (K : Int) - 64 < (M : Int) := by rw [hM] at hs; unfold nw at hs; omega
  by_cases hfit : ofW f K < 2 ^ (d * n)
  · have ho := pof_pack v K d n f w h hf hd hn hs hfit
    have hr := fun (w' : World) (k : More w w') => refp_of_yes v K d n f w' (h.more k) hf (by omega) hd hn hs hfit
    have hV : packV d (fun i => ofW f K / 2 ^ (d * i) % 2 ^ d) n = ofW f K := by rw [packV_of, Nat.mod_eq_of_lt hfit]
    generalize ofW f K = W at ho hr hV
    have his := fun (v' : Value) (base p : Nat) (w' : World) (hp : PackAt w' base p W d n) (hr' : Rd w' v' n (fun i => W / 2 ^ (d * i) % 2 ^ d)) => is_pack v' base p d n (fun i => W / 2 ^ (d * i) % 2 ^ d) w' (by rw [hV]; exact hp) hr' (fun j _ => Nat.mod_lt _ (Nat.two_pow_pos d)) (by omega)
    obtain ⟨ao, cap, rfl⟩ := h.shape
    clear h hM hs hfit hf hV
    go_enter Try.func4, Try.ntmps4
    go_wp2_with (first
      | (go_at_call 16; refine ho.mono ?_; rintro e w1 ⟨p, rfl, hp, hm⟩; have H1 := Hid.mk (And.intro hp hm); clear hp hm)
      | (go_at_call 17; refine (hr _ H1.out.2).mono ?_; rintro e w2 ⟨v2, rfl, hown, hm⟩; have H2 := Hid.mk (And.intro hown (And.intro (More.trans H1.out.2 hm) (H1.out.1.more hm))); clear hown hm; obtain ⟨ao2, cap2, hs2⟩ := shape_of H2.out.1; subst hs2)
      | (go_at_call 10; refine (his _ _ p _ H2.out.2.2 (rd_of_own H2.out.1)).mono ?_; rintro e w3 ⟨rfl, hm⟩; have H3 := Hid.mk (More.trans H2.out.2.1 hm); clear hm)
      | (go_at_call 7; refine (hl _).mono ?_; rintro e w4 ⟨rfl, hm⟩; have H4 := Hid.mk (More.trans H3.out hm); clear hm))
    go_ret
    exact ⟨rfl, H4.out⟩
  · have ho := pof_form v K d n f w h hf hd hn hs hfit
    have hr := fun (w' : World) (k : More w w') => refp_of_not v K d n f w' (h.more k) hf (by omega) hd hn hs hfit
    obtain ⟨ao, cap, rfl⟩ := h.shape
    clear h hM hs hfit hf
    go_enter Try.func4, Try.ntmps4
    go_wp2_with (first
      | (go_at_call 16; refine ho.mono ?_; rintro e w1 ⟨rfl, m1, hw⟩; subst w1)
      | (go_at_call 17; refine (hr _ (More.drewN _ _)).mono ?_; rintro e w2 ⟨rfl, hm⟩; have H2 := Hid.mk (More.trans (More.drewN _ _) hm); clear hm)
      | (go_at_call 7; refine (hl _).mono ?_; rintro e w4 ⟨rfl, hm⟩; have H4 := Hid.mk (More.trans H2.out hm); clear hm))
    go_ret
    exact ⟨rfl, H4.out⟩

theorem packOf (v : Value) (K : Nat) (f : Nat → Nat) (d n : Int) (w : World) (h : Rd w v K f) (hf : ∀ j, j < K → f j < 18446744073709551616) (hK : K ≤ 9223372036854775807) :
    Calls Try.prog 4 #[.int .i64 d, .int .i64 n, v] w fun e w' => e = .returned (.bool true) ∧ Below w.heap.size w w' := by
  by_cases hbig : 40 < K
  · obtain ⟨ao, cap, rfl⟩ := h.shape
    have hl := live w
    clear h hf
    go_enter Try.func4, Try.ntmps4
    go_wp2_with (go_at_call 7; refine hl.mono ?_; rintro e w' ⟨rfl, hm⟩)
    go_ret
    exact ⟨rfl, hm⟩
  · by_cases hd : ¬ (0 ≤ d ∧ d ≤ 64) ∨ n < 0 ∨ 67108864 < n
    · exact packOf_bad v K f d n w h (by omega) hd
    · obtain ⟨d, rfl⟩ := Int.eq_ofNat_of_zero_le (show 0 ≤ d by omega)
      obtain ⟨n, rfl⟩ := Int.eq_ofNat_of_zero_le (show 0 ≤ n by omega)
      by_cases h0 : d = 0 ∨ n = 0
      · exact packOf_none v K d n f w h (by omega) (by omega) (by omega) h0
      · by_cases hs : K = nw (d * n)
        · exact packOf_words v K d n f w h hf (by omega) (by omega) (by omega) (by omega) (by omega) hs
        · exact packOf_short v K d n f w h (by omega) (by omega) (by omega) (by omega) (by omega) hs

end Go.Proofs.Ytbjdjidamocmoaa
