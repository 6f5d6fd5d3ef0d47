/-
  The document's Read.
-/
import Derived.Test.YtgcjbkcfcklcfaaDoorStreamRefC
namespace Go.Proofs.YtgcjbkcfcklcfaaDoor
open Go.RowKit

/-- What Read tells. -/
def ReadV (v t er : Nat) (w : World) (e : Ending) (w' : World) : Prop := e = .returned (.tuple #[.int .u64 v, .int .i64 t, .int .i64 er]) ∧ w' = w

set_option maxHeartbeats 800000 in
set_option maxRecDepth 1000000 in
theorem ref_read0 (v : Value) (m U y t er : Nat) (N : Int) (w : World) (h : BRo w v m U) (hU : U < 2 ^ m) (hm : m ≤ 1099511627776) (hq : rdF U m N = (y, t, er)) :
    Calls Tryd.prog 18 #[v, .int .i64 0, .int .i64 N] w (ReadV y t er w) := by
  unfold rdF at hq
  by_cases h1 : N < 0 ∨ 64 < N
  · rw [if_pos h1] at hq
    simp only [Prod.mk.injEq] at hq
    obtain ⟨rfl, rfl, rfl⟩ := hq
    obtain ⟨ao, cap, rfl⟩ := h.shape
    clear h
    rcases h1 with h1 | h1
    all_goals
      go_enter Tryd.func18, Tryd.ntmps18
      go_wp2
      go_ret3
      exact ⟨rfl, rfl⟩
  · obtain ⟨k, rfl⟩ := Int.eq_ofNat_of_zero_le (show 0 ≤ N by omega)
    rw [if_neg h1] at hq
    have hk : k ≤ 64 := by omega
    have hl := ref_low v m U 0 k w h hU hm hk (by decide)
    obtain ⟨ao, cap, rfl⟩ := h.shape
    clear h h1
    by_cases h2 : m < k
    · rw [if_pos (by omega)] at hq
      simp only [Prod.mk.injEq] at hq
      obtain ⟨rfl, rfl, rfl⟩ := hq
      rw [if_pos (by omega), if_pos (by omega)] at hl
      go_enter Tryd.func18, Tryd.ntmps18
      go_wp2_with (go_at_call 40; refine hl.mono ?_; rintro e w' ⟨rfl, hw'⟩; subst w')
      go_ret3
      exact ⟨rfl, rfl⟩
    · rw [if_neg (by omega)] at hq
      simp only [Prod.mk.injEq, Int.toNat_natCast] at hq
      obtain ⟨hy, rfl, rfl⟩ := hq
      rw [if_neg (by omega), if_neg (by omega), Nat.pow_zero, Nat.div_one, hy] at hl
      clear hy
      go_enter Tryd.func18, Tryd.ntmps18
      go_wp2_with (go_at_call 40; refine hl.mono ?_; rintro e w' ⟨rfl, hw'⟩; subst w')
      go_ret3
      exact ⟨rfl, rfl⟩

set_option maxHeartbeats 800000 in
set_option maxRecDepth 1000000 in
theorem ref_read1 (v : Value) (m U y t er : Nat) (N : Int) (w : World) (h : BRo w v m U) (hm : m ≤ 1099511627776) (hq : rdU U m = (y, t, er)) :
    Calls Tryd.prog 18 #[v, .int .i64 1, .int .i64 N] w (ReadV y t er w) := by
  obtain ⟨q, e, hn⟩ : ∃ q e, nq U m 4096 = (q, e) := ⟨_, _, rfl⟩
  have hc := ref_noughts v m U 4096 q e w h hm (by decide) hn
  unfold rdU at hq
  rw [hn] at hq
  simp only at hq
  obtain ⟨ao, cap, rfl⟩ := h.shape
  clear h
  by_cases h0 : e = 0
  · rw [if_pos h0] at hq
    subst h0
    simp only [Prod.mk.injEq] at hq
    obtain ⟨rfl, rfl, rfl⟩ := hq
    obtain ⟨h1, _⟩ := nq_ok hn
    have hw : IntKind.u64.wrap (q : Int) = (q : Int) := wrapU _ (by omega) (by omega)
    clear hn
    go_enter Tryd.func18, Tryd.ntmps18
    go_wp2_with (go_at_call 41; refine hc.mono ?_; rintro e w' ⟨rfl, hw'⟩; subst w')
    go_ret3
    exact ⟨rfl, rfl⟩
  · rw [if_neg h0] at hq
    simp only [Prod.mk.injEq] at hq
    obtain ⟨rfl, rfl, rfl⟩ := hq
    have hne : ((e : Int) != 0) = true := by simp; omega
    clear hn
    go_enter Tryd.func18, Tryd.ntmps18
    go_wp2_with (go_at_call 41; refine hc.mono ?_; rintro e w' ⟨rfl, hw'⟩; subst w')
    go_ret3
    exact ⟨rfl, rfl⟩

set_option maxHeartbeats 800000 in
set_option maxRecDepth 1000000 in
theorem ref_read2 (v : Value) (m U y t er : Nat) (N : Int) (w : World) (h : BRo w v m U) (hU : U < 2 ^ m) (hm : m ≤ 1099511627776) (hq : rdG U m = (y, t, er)) :
    Calls Tryd.prog 18 #[v, .int .i64 2, .int .i64 N] w (ReadV y t er w) := by
  obtain ⟨q, e, hn⟩ : ∃ q e, nq U m 63 = (q, e) := ⟨_, _, rfl⟩
  have hc := ref_noughts v m U 63 q e w h hm (by decide) hn
  unfold rdG at hq
  rw [hn] at hq
  simp only at hq
  by_cases h0 : e = 0
  · rw [if_pos h0] at hq
    subst h0
    obtain ⟨h1, h2⟩ := nq_ok hn
    have hl := ref_low v m U (q + 1) q w h hU hm (by omega) (by omega)
    rw [show ((q + 1 : Nat) : Int) = (q : Int) + 1 by omega] at hl
    have hp := ref_power q w h1
    have hlt : U / 2 ^ (q + 1) % 2 ^ q < 2 ^ q := Nat.mod_lt _ (Nat.two_pow_pos _)
    have h64 := pow_lt64 (show q < 64 by omega)
    rw [Nat.pow_succ] at h64
    obtain ⟨ao, cap, rfl⟩ := h.shape
    clear h hn
    generalize U / 2 ^ (q + 1) % 2 ^ q = l at *
    generalize 2 ^ q = P at *
    by_cases h3 : m < q + 1 + q
    · rw [if_pos h3] at hq
      simp only [Prod.mk.injEq] at hq
      obtain ⟨rfl, rfl, rfl⟩ := hq
      rw [if_pos h3, if_pos h3] at hl
      clear h3
      go_enter Tryd.func18, Tryd.ntmps18
      go_wp2_with (first
        | (go_at_call 41; refine hc.mono ?_; rintro e w' ⟨rfl, hw'⟩; subst w')
        | (go_at_call 40; refine hl.mono ?_; rintro e w' ⟨rfl, hw'⟩; subst w'))
      go_ret3
      exact ⟨rfl, rfl⟩
    · rw [if_neg h3] at hq
      simp only [Prod.mk.injEq] at hq
      obtain ⟨rfl, rfl, rfl⟩ := hq
      rw [if_neg h3, if_neg h3] at hl
      have hw : IntKind.u64.wrap ((P : Int) + (l : Int)) = (P : Int) + (l : Int) := wrapU _ (by omega) (by omega)
      clear h3
      go_enter Tryd.func18, Tryd.ntmps18
      go_wp2_with (first
        | (go_at_call 41; refine hc.mono ?_; rintro e w' ⟨rfl, hw'⟩; subst w')
        | (go_at_call 40; refine hl.mono ?_; rintro e w' ⟨rfl, hw'⟩; subst w')
        | (go_at_call 42; refine hp.mono ?_; rintro e w' ⟨rfl, hw'⟩; subst w'))
      go_ret3
      exact ⟨by simp; omega, rfl⟩
  · rw [if_neg h0] at hq
    simp only [Prod.mk.injEq] at hq
    obtain ⟨rfl, rfl, rfl⟩ := hq
    have hne : ((e : Int) != 0) = true := by simp; omega
    obtain ⟨ao, cap, rfl⟩ := h.shape
    clear hn h
    go_enter Tryd.func18, Tryd.ntmps18
    go_wp2_with (go_at_call 41; refine hc.mono ?_; rintro e w' ⟨rfl, hw'⟩; subst w')
    go_ret3
    exact ⟨rfl, rfl⟩

set_option maxHeartbeats 1600000 in
set_option maxRecDepth 1000000 in
theorem ref_read3 (v : Value) (m U y t er : Nat) (kd N : Int) (w : World) (h : BRo w v m U) (hU : U < 2 ^ m) (hm : m ≤ 1099511627776) (hkd : kd ≠ 0 ∧ kd ≠ 1 ∧ kd ≠ 2) (hq : rdR U m N = (y, t, er)) :
    Calls Tryd.prog 18 #[v, .int .i64 kd, .int .i64 N] w (ReadV y t er w) := by
  obtain ⟨k0, k1, k2⟩ := hkd
  have b0 : (kd == 0) = false := by simp [k0]
  have b1 : (kd == 1) = false := by simp [k1]
  have b2 : (kd == 2) = false := by simp [k2]
  clear k0 k1 k2
  unfold rdR at hq
  by_cases h1 : N < 0 ∨ 63 < N
  · rw [if_pos h1] at hq
    simp only [Prod.mk.injEq] at hq
    obtain ⟨rfl, rfl, rfl⟩ := hq
    obtain ⟨ao, cap, rfl⟩ := h.shape
    clear h
    rcases h1 with h1 | h1
    all_goals
      go_enter Tryd.func18, Tryd.ntmps18
      go_wp2
      go_ret3
      exact ⟨rfl, rfl⟩
  rw [if_neg h1] at hq
  obtain ⟨k, rfl⟩ := Int.eq_ofNat_of_zero_le (show 0 ≤ N by omega)
  have hk : k ≤ 63 := by omega
  clear h1
  obtain ⟨q, e, hn⟩ : ∃ q e, nq U m 4096 = (q, e) := ⟨_, _, rfl⟩
  have hc := ref_noughts v m U 4096 q e w h hm (by decide) hn
  rw [hn] at hq
  simp only [Int.toNat_natCast] at hq
  by_cases h0 : e = 0
  · rw [if_pos h0] at hq
    subst h0
    obtain ⟨h1, h2⟩ := nq_ok hn
    have hl := ref_low v m U (q + 1) k w h hU hm (by omega) (by omega)
    rw [show ((q + 1 : Nat) : Int) = (q : Int) + 1 by omega] at hl
    have hp := ref_power k w hk
    have hwd := ref_Width q (by omega) w
    have hB : Lib.bitLen q ≤ 64 := by
      by_cases hz : q = 0
      · subst hz; decide
      · have := top_bounds q (by omega) hz; omega
    have hlt : U / 2 ^ (q + 1) % 2 ^ k < 2 ^ k := Nat.mod_lt _ (Nat.two_pow_pos _)
    have hwq : IntKind.u64.wrap (q : Int) = (q : Int) := wrapU _ (by omega) (by omega)
    have hmul : Lib.bitLen q + k ≤ 64 → (q + 1) * 2 ^ k ≤ 18446744073709551616 := fun hle => by
      have h3 := width_lt q (64 - k) (by omega) (by omega)
      have h4 : (q + 1) * 2 ^ k ≤ 2 ^ (64 - k) * 2 ^ k := Nat.mul_le_mul_right _ h3
      rw [← Nat.pow_add, show 64 - k + k = 64 by omega] at h4
      exact h4
    have hP0 := Nat.two_pow_pos k
    obtain ⟨ao, cap, rfl⟩ := h.shape
    clear h hn
    generalize U / 2 ^ (q + 1) % 2 ^ k = l at *
    generalize 2 ^ k = P at *
    generalize Lib.bitLen q = B at *
    by_cases h5 : 64 < B + k
    · rw [if_pos h5] at hq
      simp only [Prod.mk.injEq] at hq
      obtain ⟨rfl, rfl, rfl⟩ := hq
      clear hl hmul
      go_enter Tryd.func18, Tryd.ntmps18
      go_wp2_with (first
        | (go_at_call 41; refine hc.mono ?_; rintro e w' ⟨rfl, hw'⟩; subst w')
        | (go_at_call 32; refine hwd.mono ?_; rintro e w' ⟨rfl, hw'⟩; subst w'))
      go_ret3
      exact ⟨rfl, rfl⟩
    rw [if_neg h5] at hq
    have hmul2 := hmul (by omega)
    obtain ⟨M, hM⟩ : ∃ M, q * P = M := ⟨_, rfl⟩
    have hM2 : (q : Int) * (P : Int) = (M : Int) := by rw [← hM]; simp
    rw [Nat.add_mul, Nat.one_mul, hM] at hmul2
    clear hmul
    by_cases h3 : m < q + 1 + k
    · rw [if_pos h3] at hq
      simp only [Prod.mk.injEq] at hq
      obtain ⟨rfl, rfl, rfl⟩ := hq
      rw [if_pos h3, if_pos h3] at hl
      clear h3 hM hM2
      go_enter Tryd.func18, Tryd.ntmps18
      go_wp2_with (first
        | (go_at_call 41; refine hc.mono ?_; rintro e w' ⟨rfl, hw'⟩; subst w')
        | (go_at_call 32; refine hwd.mono ?_; rintro e w' ⟨rfl, hw'⟩; subst w')
        | (go_at_call 40; refine hl.mono ?_; rintro e w' ⟨rfl, hw'⟩; subst w'))
      go_ret3
      exact ⟨rfl, rfl⟩
    · rw [if_neg h3] at hq
      simp only [Prod.mk.injEq] at hq
      obtain ⟨hy, rfl, rfl⟩ := hq
      rw [if_neg h3, if_neg h3] at hl
      rw [hM] at hy
      subst hy
      have hw1 : IntKind.u64.wrap (M : Int) = (M : Int) := wrapU _ (by omega) (by omega)
      have hw : IntKind.u64.wrap ((M : Int) + (l : Int)) = (M : Int) + (l : Int) := wrapU _ (by omega) (by omega)
      clear h3 hM
      go_enter Tryd.func18, Tryd.ntmps18
      go_wp2_with (first
        | (go_at_call 41; refine hc.mono ?_; rintro e w' ⟨rfl, hw'⟩; subst w')
        | (go_at_call 32; refine hwd.mono ?_; rintro e w' ⟨rfl, hw'⟩; subst w')
        | (go_at_call 40; refine hl.mono ?_; rintro e w' ⟨rfl, hw'⟩; subst w')
        | (go_at_call 42; refine hp.mono ?_; rintro e w' ⟨rfl, hw'⟩; subst w'))
      go_ret3
      exact ⟨by simp, rfl⟩
  · rw [if_neg h0] at hq
    simp only [Prod.mk.injEq] at hq
    obtain ⟨rfl, rfl, rfl⟩ := hq
    have hne : ((e : Int) != 0) = true := by simp; omega
    obtain ⟨ao, cap, rfl⟩ := h.shape
    clear hn h
    go_enter Tryd.func18, Tryd.ntmps18
    go_wp2_with (go_at_call 41; refine hc.mono ?_; rintro e w' ⟨rfl, hw'⟩; subst w')
    go_ret3
    exact ⟨rfl, rfl⟩

theorem ref_read (v : Value) (m U y t er : Nat) (kd N : Int) (w : World) (h : BRo w v m U) (hU : U < 2 ^ m) (hm : m ≤ 1099511627776) (hq : rd kd U m N = (y, t, er)) :
    Calls Tryd.prog 18 #[v, .int .i64 kd, .int .i64 N] w (ReadV y t er w) := by
  unfold rd at hq
  by_cases k0 : kd = 0
  · subst k0; rw [if_pos rfl] at hq; exact ref_read0 v m U y t er N w h hU hm hq
  rw [if_neg k0] at hq
  by_cases k1 : kd = 1
  · subst k1; rw [if_pos rfl] at hq; exact ref_read1 v m U y t er N w h hm hq
  rw [if_neg k1] at hq
  by_cases k2 : kd = 2
  · subst k2; rw [if_pos rfl] at hq; exact ref_read2 v m U y t er N w h hU hm hq
  rw [if_neg k2] at hq
  exact ref_read3 v m U y t er kd N w h hU hm ⟨k0, k1, k2⟩ hq

end Go.Proofs.YtgcjbkcfcklcfaaDoor
