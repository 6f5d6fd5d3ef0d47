/-
  bitrow's Of: the row of some words, or why there is none.
-/
import Derived.Test.YtgcjbkcfcklcfaaDoorSame
namespace Go.Proofs.YtgcjbkcfcklcfaaDoor
open Go.RowKit

theorem above_zero (x u : Nat) (hu : u ≤ 64) (hx : x < 18446744073709551616) : x &&& (18446744073709551615 - (2 ^ u - 1)) = 0 ↔ x < 2 ^ u := by
  have hm : ∀ t, (18446744073709551615 - (2 ^ u - 1)).testBit t = (decide (t < 64) && !decide (t < u)) := by
    intro t
    have hB2 : 2 ^ u - 1 < 2 ^ 64 := by
      have := Nat.pow_le_pow_right (show 0 < 2 by decide) hu
      have := Nat.two_pow_pos u
      omega
    have := Nat.testBit_two_pow_sub_succ hB2 t
    rw [show 2 ^ 64 - (2 ^ u - 1 + 1) = 18446744073709551615 - (2 ^ u - 1) by omega, Nat.testBit_two_pow_sub_one] at this
    exact this
  constructor
  · intro h
    apply Nat.lt_pow_two_of_testBit
    intro i hi
    have h2 : (x &&& (18446744073709551615 - (2 ^ u - 1))).testBit i = false := by rw [h]; simp
    rw [Nat.testBit_and, hm] at h2
    by_cases h6 : i < 64
    · simpa [h6, show ¬ i < u by omega] using h2
    · exact bit_above (n := 64) hx (by omega)
  · intro h
    apply Nat.eq_of_testBit_eq
    intro i
    rw [Nat.testBit_and, hm, Nat.zero_testBit]
    by_cases h6 : i < u
    · simp [h6]
    · rw [bit_above h (by omega)]; rfl

theorem top_word (f : Nat → Nat) (n K : Nat) (hK : K = nw n) (hu : n % 64 ≠ 0) (hf : ∀ j, j < K → f j < 18446744073709551616) : ofW f K < 2 ^ n ↔ f (n / 64) < 2 ^ (n % 64) := by
  have hq : K = n / 64 + 1 := by unfold nw at hK; omega
  subst hq
  have hl := ofW_lt f (n / 64) fun j hj => hf j (by omega)
  have hn : 2 ^ n = 2 ^ (64 * (n / 64)) * 2 ^ (n % 64) := by rw [← Nat.pow_add]; congr 1; omega
  rw [ofW]
  constructor
  · intro h
    apply Nat.lt_of_not_le
    intro h2
    have := Nat.mul_le_mul_left (2 ^ (64 * (n / 64))) h2
    unfold cat at h
    omega
  · intro h
    have := cat_lt hl h
    rwa [show 64 * (n / 64) + n % 64 = n by omega] at this

theorem full_word (f : Nat → Nat) (n K : Nat) (hK : K = nw n) (hu : n % 64 = 0) (hf : ∀ j, j < K → f j < 18446744073709551616) : ofW f K < 2 ^ n := by
  have hl := ofW_lt f K hf
  rwa [show 64 * K = n by unfold nw at hK; omega] at hl

theorem of_short (v : Value) (K : Nat) (n : Int) (f : Nat → Nat) (w : World) (h : Rd w v K f) (hK : K ≤ 1099511627776) (hn : n ≤ 9223372036854775807) (hs : n < 0 ∨ K ≠ nw n.toNat) :
    Calls Tryd.prog 56 #[v, .int .i64 n] w fun e w' => e = .returned (.tuple #[.pointer none, .int .i64 1]) ∧ w' = w := by
  obtain ⟨ao, cap, rfl⟩ : ∃ ao cap, v = .slice ao K cap := by
    rcases h with ⟨rfl, ao, cap, rfl⟩ | ⟨g, o, cap, rfl, _⟩
    · exact ⟨_, _, rfl⟩
    · exact ⟨_, _, rfl⟩
  by_cases h0 : n < 0
  · clear h hs
    go_enter Tryd.func56, Tryd.ntmps56
    go_wp2
    go_ret2
    exact ⟨rfl, rfl⟩
  · obtain ⟨n, rfl⟩ := Int.eq_ofNat_of_zero_le (show 0 ≤ n by omega)
    have hne : ((K : Int) != ((nw n : Nat) : Int)) = true := by simp at hs ⊢; omega
    clear h hs h0
    go_enter Tryd.func56, Tryd.ntmps56
    go_wp2_with (go_at_call 46; refine (wordsOf n (by omega) _).mono ?_; rintro e w' ⟨rfl, rfl⟩)
    go_ret2
    exact ⟨rfl, rfl⟩

theorem rd_drewN {w : World} {v : Value} {K : Nat} {f : Nat → Nat} (h : Rd w v K f) (m : Nat) : Rd (w.drewN m) v K f := h

theorem shape_of {w : World} {base : Nat} {v : Value} {K e : Nat} {xs : List Value} (h : w.ownsRow base e 1 v K xs) : ∃ ao cap, v = .slice ao K cap := by
  rcases h.2 with ⟨h, hn⟩ | ⟨g, cap, _, h, _⟩
  · exact ⟨none, 0, by rw [h, hn]⟩
  · exact ⟨_, _, h⟩

/-- The row that has been made. -/
theorem of_end {w w1 : World} {K n : Nat} {f : Nat → Nat} {v : Value} (hown : w1.ownsRow w.heap.size 32 1 v K (u64s f K)) (hk : Keeps w.heap.size w w1) (hK : K = nw n) (hf : ∀ j, j < K → f j < 18446744073709551616) (hfit : ofW f K < 2 ^ n) (hn : n ≤ 1099511627776) :
    RowAt (w1.alloc (.cells #[v, .int .i64 n] 68)) w.heap.size w1.heap.size (ofW f K) n ∧ Keeps w.heap.size w (w1.alloc (.cells #[v, .int .i64 n] 68)) := by
  refine ⟨⟨hk.below.size, hfit, hn, v, heap_alloc_new _ _, ?_⟩, hk.alloc hk.below.size _⟩
  rw [← hK, u64s_congr (f := wd (ofW f K)) (g := f) fun i hi => ofW_wd f K hf i hi]
  exact hown.alloc _

set_option maxRecDepth 1000000 in
theorem of_row (v : Value) (K n : Nat) (f : Nat → Nat) (w : World) (h : Rd w v K f) (hf : ∀ j, j < K → f j < 18446744073709551616) (hn : n ≤ 1099511627776) (hK : K = nw n) (hfit : ofW f K < 2 ^ n) :
    Calls Tryd.prog 56 #[v, .int .i64 n] w fun e w' => ∃ b, e = .returned (.tuple #[.pointer (some ⟨b, 0, none⟩), .int .i64 0]) ∧ RowAt w' w.heap.size b (ofW f K) n ∧ Keeps w.heap.size w w' := by
  have hKl : K ≤ 1099511627776 := by unfold nw at hK; omega
  have hwo : ∀ w, Calls Tryd.prog 46 #[.int .i64 n] w fun e w' => e = .returned (.int .i64 K) ∧ w' = w := fun w => by rw [hK]; exact wordsOf n (by omega) w
  have hcl := fun (m : Nat) => clone v K f (w.drewN m) (rd_drewN h m) hKl
  have HH : Hid _ := And.intro hfit (And.intro hK hf)
  by_cases hu : n % 64 = 0
  · have hm : (n : Int) % 64 = 0 := by omega
    obtain ⟨ao, cap, rfl⟩ : ∃ ao cap, v = .slice ao K cap := by
      rcases h with ⟨rfl, ao, cap, rfl⟩ | ⟨g, o, cap, rfl, _⟩
      · exact ⟨_, _, rfl⟩
      · exact ⟨_, _, rfl⟩
    clear h hfit hf hu hK
    go_enter Tryd.func56, Tryd.ntmps56
    go_wp2_with (go_at_call 46; refine (hwo _).mono ?_; rintro e w' ⟨rfl, rfl⟩)
    go_quiet (fail)
    go_wp2_with (go_at_call 38; refine (hcl _).mono ?_; rintro e w1 ⟨v', rfl, hown, hk⟩; have HO : Hid _ := And.intro hown hk; clear hown hk; obtain ⟨ao', cap', rfl⟩ : ∃ ao cap, v' = .slice ao K cap := shape_of HO.out.1)
    go_ret2
    have E := of_end (w := w'.drewN nq) HO.out.1 HO.out.2 HH.out.2.1 HH.out.2.2 HH.out.1 hn
    exact ⟨_, rfl, E.1, ((Keeps.refl _ w').drewN nq).trans E.2⟩
  · have hlt := (top_word f n K hK hu hf).1 hfit
    obtain ⟨q, hq⟩ : ∃ q, n / 64 = q := ⟨_, rfl⟩
    obtain ⟨u, hu2⟩ : ∃ u, n % 64 = u := ⟨_, rfl⟩
    have hd : (n : Int) / 64 = q := by omega
    have hm : (n : Int) % 64 = u := by omega
    have hqK : q < K := by unfold nw at hK; omega
    rw [hq, hu2] at hlt
    have hu64 : u < 64 := by omega
    have hu0 : u ≠ 0 := by omega
    have hmin : min 64 u = u := by omega
    have hand : bits .andNot .u64 ((f q : Nat) : Int) ((2 ^ u - 1 : Nat) : Int) = 0 := by
      rw [u64_andNot_nat _ _ (hf q hqK) (by have := Nat.pow_le_pow_right (show 0 < 2 by decide) (show u ≤ 64 by omega); have := Nat.two_pow_pos u; omega), (above_zero _ _ (by omega) (hf q hqK)).2 hlt]
      rfl
    obtain ⟨g, o, cap, rfl, hg, hc⟩ : ∃ g o cap, v = .slice (some ⟨g, o, none⟩) K cap ∧ g < w.heap.size ∧ ∀ j, j < K → w.cell? ⟨g, o + j, none⟩ = some (.int .u64 (f j : Nat)) := by
      rcases h with ⟨rfl, _⟩ | h
      · omega
      · exact h
    have hcq := hc q hqK
    have hmk : ∀ w, Calls Tryd.prog 62 #[.int .i64 u] w fun e w' => e = .returned (.int .u64 (2 ^ u - 1 : Nat)) ∧ w' = w := fun w => by
      have := mask u w
      rwa [show min 64 (Int.toNat (u : Int)) = u by simp; omega] at this
    have hg0 : ((u : Int) != 0) = true := by simp; omega
    clear h hfit hf hu hK hc hlt hq hu2 hmin
    go_enter Tryd.func56, Tryd.ntmps56
    go_wp2_with (go_at_call 46; refine (hwo _).mono ?_; rintro e w' ⟨rfl, rfl⟩)
    go_quiet ((go_at_call 62; exact Calls.quiet_of_same (hmk _)))
    go_wp2_with (go_at_call 38; refine (hcl _).mono ?_; rintro e w1 ⟨v', rfl, hown, hk⟩; have HO : Hid _ := And.intro hown hk; clear hown hk; obtain ⟨ao', cap', rfl⟩ : ∃ ao cap, v' = .slice ao K cap := shape_of HO.out.1)
    go_ret2
    have E := of_end (w := w'.drewN nq) HO.out.1 HO.out.2 HH.out.2.1 HH.out.2.2 HH.out.1 hn
    exact ⟨_, rfl, E.1, ((Keeps.refl _ w').drewN nq).trans E.2⟩

set_option maxRecDepth 1000000 in
theorem of_form (v : Value) (K n : Nat) (f : Nat → Nat) (w : World) (h : Rd w v K f) (hf : ∀ j, j < K → f j < 18446744073709551616) (hn : n ≤ 1099511627776) (hK : K = nw n) (hfit : ¬ ofW f K < 2 ^ n) :
    Calls Tryd.prog 56 #[v, .int .i64 n] w fun e w' => e = .returned (.tuple #[.pointer none, .int .i64 3]) ∧ ∃ m, w' = w.drewN m := by
  have hu : n % 64 ≠ 0 := fun hu => hfit (full_word f n K hK hu hf)
  have hwo : ∀ w, Calls Tryd.prog 46 #[.int .i64 n] w fun e w' => e = .returned (.int .i64 K) ∧ w' = w := fun w => by rw [hK]; exact wordsOf n (by omega) w
  have hlt := mt (top_word f n K hK hu hf).2 hfit
  obtain ⟨q, hq⟩ : ∃ q, n / 64 = q := ⟨_, rfl⟩
  obtain ⟨u, hu2⟩ : ∃ u, n % 64 = u := ⟨_, rfl⟩
  have hd : (n : Int) / 64 = q := by omega
  have hm : (n : Int) % 64 = u := by omega
  have hqK : q < K := by unfold nw at hK; omega
  have hKl : K ≤ 1099511627776 := by unfold nw at hK; omega
  rw [hq, hu2] at hlt
  have hu64 : u < 64 := by omega
  have hu0 : u ≠ 0 := by omega
  have hand := u64_andNot_nat (f q) (2 ^ u - 1) (hf q hqK) (by have := Nat.pow_le_pow_right (show 0 < 2 by decide) (show u ≤ 64 by omega); have := Nat.two_pow_pos u; omega)
  have hY := mt (above_zero (f q) u (by omega) (hf q hqK)).1 hlt
  generalize f q &&& (18446744073709551615 - (2 ^ u - 1)) = Y at hand hY
  have hY0 : ((Y : Int) != 0) = true := by simpa using hY
  obtain ⟨g, o, cap, rfl, hg, hc⟩ : ∃ g o cap, v = .slice (some ⟨g, o, none⟩) K cap ∧ g < w.heap.size ∧ ∀ j, j < K → w.cell? ⟨g, o + j, none⟩ = some (.int .u64 (f j : Nat)) := by
    rcases h with ⟨rfl, _⟩ | h
    · omega
    · exact h
  have hcq := hc q hqK
  have hmk : ∀ w, Calls Tryd.prog 62 #[.int .i64 u] w fun e w' => e = .returned (.int .u64 (2 ^ u - 1 : Nat)) ∧ w' = w := fun w => by
    have := mask u w
    rwa [show min 64 (Int.toNat (u : Int)) = u by simp; omega] at this
  have hg0 : ((u : Int) != 0) = true := by simp; omega
  clear h hfit hf hu hK hc hlt hq hu2 hY
  go_enter Tryd.func56, Tryd.ntmps56
  go_wp2_with (go_at_call 46; refine (hwo _).mono ?_; rintro e w' ⟨rfl, rfl⟩)
  go_quiet ((go_at_call 62; exact Calls.quiet_of_same (hmk _)))
  go_wp2
  go_ret2
  exact ⟨rfl, _, rfl⟩

end Go.Proofs.YtgcjbkcfcklcfaaDoor
