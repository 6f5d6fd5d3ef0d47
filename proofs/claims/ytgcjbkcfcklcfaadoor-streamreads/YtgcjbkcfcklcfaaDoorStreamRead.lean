/-
  stream's Reader: fixed, noughts, unary, gamma, rice: which number stands at a place, and where its bits end.
-/
import Derived.Test.YtgcjbkcfcklcfaaDoorStreamCopy
namespace Go.Proofs.YtgcjbkcfcklcfaaDoor
open Go.RowKit

/-- What a code's function tells: the number, the place behind it, an error's number. -/
def Tells (a v t er : Nat) (e : Ending) : Prop := ∃ v' z : Nat, e = .returned (.tuple #[.int .u64 v', .int .i64 z, .int .i64 er]) ∧ (er = 0 → v' = v ∧ z = a + t)

theorem cut_at (V a k : Nat) : cutV V (a : Int) k = V / 2 ^ a % 2 ^ k := by
  unfold cutV
  rw [if_neg (by omega)]
  simp

set_option maxRecDepth 1000000 in
theorem rd_fixed (b rb V n a v t er : Nat) (N : Int) (w : World) (hc : w.cell? ⟨b, 0, none⟩ = some (.pointer (some ⟨rb, 0, none⟩))) (hr : RowRd w rb V n) (ha : a ≤ n) (hq : rdF (V / 2 ^ a) (n - a) N = (v, t, er)) :
    Calls Tryd.prog 59 #[.pointer (some ⟨b, 0, none⟩), .int .i64 a, .int .i64 N] w fun e w' => e = .returned (.tuple #[.int .u64 v, .int .i64 (if er = 0 then ((a + t : Nat) : Int) else 0), .int .i64 er]) ∧ ∃ j, w' = w.drewN j := by
  have hlen := hr.len
  unfold rdF at hq
  by_cases h1 : N < 0 ∨ 64 < N
  · rw [if_pos h1] at hq
    simp only [Prod.mk.injEq] at hq
    obtain ⟨rfl, rfl, rfl⟩ := hq
    clear hc hr
    rcases h1 with h1 | h1
    all_goals
      go_enter Tryd.func59, Tryd.ntmps59
      go_wp2
      go_ret3
      exact ⟨rfl, 0, rfl⟩
  · rw [if_neg h1] at hq
    obtain ⟨N, rfl⟩ := Int.eq_ofNat_of_zero_le (show 0 ≤ N by omega)
    have hN : N ≤ 64 := by omega
    have hl := row_len rb n w hr.c1
    clear h1
    by_cases h2 : ((n - a : Nat) : Int) < (N : Int)
    · rw [if_pos h2] at hq
      simp only [Prod.mk.injEq] at hq
      obtain ⟨rfl, rfl, rfl⟩ := hq
      have h3 : (n : Int) - (a : Int) < (N : Int) := by omega
      clear h2
      go_enter Tryd.func59, Tryd.ntmps59
      go_wp2_with (go_at_call 12; refine hl.mono ?_; rintro e w' ⟨rfl, hw'⟩; subst w')
      go_ret3
      exact ⟨rfl, 0, rfl⟩
    · rw [if_neg h2] at hq
      simp only [Prod.mk.injEq, Int.toNat_natCast] at hq
      obtain ⟨hv, ht, hE⟩ := hq
      subst ht
      subst hE
      have h3 : ¬ (n : Int) - (a : Int) < (N : Int) := by omega
      have hcut := row_cut rb V n a N w hr (by omega) (by omega)
      rw [cut_at, show min 64 (Int.toNat (N : Int)) = N by simp; omega, hv] at hcut
      clear h2 hv
      go_enter Tryd.func59, Tryd.ntmps59
      go_wp2_with (first
        | (go_at_call 12; refine hl.mono ?_; rintro e w' ⟨rfl, hw'⟩; subst w')
        | (go_at_call 26; refine hcut.mono ?_; rintro e w' ⟨rfl, m, hw'⟩; subst w'))
      go_ret3
      exact ⟨by simp, _, rfl⟩

set_option maxRecDepth 1000000 in
theorem rd_noughts (b rb V n a lim q er : Nat) (w : World) (hc : w.cell? ⟨b, 0, none⟩ = some (.pointer (some ⟨rb, 0, none⟩))) (hr : RowRd w rb V n) (hT : TabIn w) (ha : a ≤ n) (hlim : lim ≤ 4096) (hq : nq (V / 2 ^ a) (n - a) lim = (q, er)) :
    Calls Tryd.prog 63 #[.pointer (some ⟨b, 0, none⟩), .int .i64 a, .int .i64 lim] w fun e w' => e = .returned (.tuple #[.int .u64 q, .int .i64 (if er = 0 then ((a + (q + 1) : Nat) : Int) else 0), .int .i64 er]) ∧ w' = w := by
  have hlen := hr.len
  have hl := row_len rb n w hr.c1
  have hn := row_next rb V n a w hr hT
  unfold nq at hq
  rcases next_shift V n a ha with ⟨h1, h2⟩ | ⟨p, hp, h1, h2⟩
  · rw [h1, if_pos rfl] at hq
    rw [h2] at hn
    obtain ⟨m, hm⟩ : ∃ m, n - a = m := ⟨_, rfl⟩
    have hm2 : (n : Int) - (a : Int) = m := by omega
    rw [hm] at hq
    by_cases h3 : lim < m
    · rw [if_pos h3] at hq
      simp only [Prod.mk.injEq] at hq
      obtain ⟨rfl, rfl⟩ := hq
      clear hr hT h1 h2
      go_enter Tryd.func63, Tryd.ntmps63
      go_wp2_with (first
        | (go_at_call 64; refine hn.mono ?_; rintro e w' ⟨rfl, hw'⟩; subst w')
        | (go_at_call 12; refine hl.mono ?_; rintro e w' ⟨rfl, hw'⟩; subst w'))
      go_ret3
      exact ⟨rfl, rfl⟩
    · rw [if_neg h3] at hq
      simp only [Prod.mk.injEq] at hq
      obtain ⟨rfl, rfl⟩ := hq
      clear hr hT h1 h2
      go_enter Tryd.func63, Tryd.ntmps63
      go_wp2_with (first
        | (go_at_call 64; refine hn.mono ?_; rintro e w' ⟨rfl, hw'⟩; subst w')
        | (go_at_call 12; refine hl.mono ?_; rintro e w' ⟨rfl, hw'⟩; subst w'))
      go_ret3
      exact ⟨rfl, rfl⟩
  · rw [h1, if_neg (by omega)] at hq
    rw [h2, show ((a + p : Nat) : Int) = (a : Int) + (p : Int) by omega] at hn
    by_cases h3 : (lim : Int) < (p : Int)
    · rw [if_pos h3] at hq
      simp only [Prod.mk.injEq] at hq
      obtain ⟨rfl, rfl⟩ := hq
      have hpn : (a : Int) + (p : Int) < n := by omega
      clear hr hT h1 h2 hl
      go_enter Tryd.func63, Tryd.ntmps63
      go_wp2_with (go_at_call 64; refine hn.mono ?_; rintro e w' ⟨rfl, hw'⟩; subst w')
      go_ret3
      exact ⟨rfl, rfl⟩
    · rw [if_neg h3] at hq
      simp only [Prod.mk.injEq, Int.toNat_natCast] at hq
      obtain ⟨rfl, rfl⟩ := hq
      have hpn : (a : Int) + (p : Int) < n := by omega
      have hwu : IntKind.u64.wrap (p : Int) = (p : Int) := wrapU _ (by omega) (by omega)
      clear hr hT h1 h2 hl
      go_enter Tryd.func63, Tryd.ntmps63
      go_wp2_with (go_at_call 64; refine hn.mono ?_; rintro e w' ⟨rfl, hw'⟩; subst w')
      go_ret3
      exact ⟨by simp; omega, rfl⟩

end Go.Proofs.YtgcjbkcfcklcfaaDoor
