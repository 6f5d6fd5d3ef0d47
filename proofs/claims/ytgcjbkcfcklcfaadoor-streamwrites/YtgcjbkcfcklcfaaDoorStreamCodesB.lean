/-
  stream's Reader: rice; what Fixed and Rice hand on.
-/
import Derived.Test.YtgcjbkcfcklcfaaDoorStreamCodes
namespace Go.Proofs.YtgcjbkcfcklcfaaDoor
open Go.RowKit

theorem rice_lt (q k l : Nat) (hq : q < 18446744073709551616) (h : Lib.bitLen q + k ≤ 64) (hl : l < 2 ^ k) : q * 2 ^ k + l < 18446744073709551616 := by
  have h1 := width_lt q (64 - k) hq (by omega)
  have h2 : (q + 1) * 2 ^ k ≤ 2 ^ (64 - k) * 2 ^ k := Nat.mul_le_mul_right _ h1
  rw [← Nat.pow_add, show 64 - k + k = 64 by omega, Nat.add_mul, Nat.one_mul] at h2
  omega

set_option maxHeartbeats 1600000 in
set_option maxRecDepth 1000000 in
theorem rd_rice (b rb V n a v t er : Nat) (N : Int) (w : World) (hc : w.cell? ⟨b, 0, none⟩ = some (.pointer (some ⟨rb, 0, none⟩))) (hr : RowRd w rb V n) (hT : TabIn w) (ha : a ≤ n) (hq : rdR (V / 2 ^ a) (n - a) N = (v, t, er)) :
    Calls Tryd.prog 54 #[.pointer (some ⟨b, 0, none⟩), .int .i64 a, .int .i64 N] w fun e w' => Tells a v t er e ∧ ∃ j, w' = w.drewN j := by
  unfold rdR at hq
  by_cases h1 : N < 0 ∨ 63 < N
  · rw [if_pos h1] at hq
    simp only [Prod.mk.injEq] at hq
    obtain ⟨rfl, rfl, rfl⟩ := hq
    clear hc hr hT
    rcases h1 with h1 | h1
    all_goals
      go_enter Tryd.func54, Tryd.ntmps54
      go_wp2
      go_ret3
      exact ⟨⟨0, 0, rfl, fun h => by simp at h⟩, 0, rfl⟩
  rw [if_neg h1] at hq
  obtain ⟨k, rfl⟩ := Int.eq_ofNat_of_zero_le (show 0 ≤ N by omega)
  have hk : k ≤ 63 := by omega
  clear h1
  obtain ⟨q, e, hn⟩ : ∃ q e, nq (V / 2 ^ a) (n - a) 4096 = (q, e) := ⟨_, _, rfl⟩
  have hc1 := rd_unary0 b rb V n a q e w hc hr hT ha hn
  rw [hn] at hq
  simp only [Int.toNat_natCast] at hq
  by_cases h0 : e = 0
  · rw [if_pos h0] at hq hc1
    subst h0
    obtain ⟨q63, qm⟩ := nq_ok hn
    have hlen := hr.len
    have hw : ∀ w, Calls Tryd.prog 45 #[.int .u64 q] w fun e w' => e = .returned (.int .i64 (Lib.bitLen q : Nat)) ∧ w' = w := fun w => lane_Width q (by omega) w
    have hB := bits_le q 64 (by omega) (by omega)
    by_cases h3 : 64 < Lib.bitLen q + k
    · rw [if_pos h3] at hq
      simp only [Prod.mk.injEq] at hq
      obtain ⟨rfl, rfl, rfl⟩ := hq
      have h3' : (64 : Int) - (k : Int) < (Lib.bitLen q : Nat) := by omega
      generalize Lib.bitLen q = B at *
      clear hr hT hn hc h3
      go_enter Tryd.func54, Tryd.ntmps54
      go_wp2_with (first
        | (go_at_call 60; refine hc1.mono ?_; rintro e w' ⟨rfl, hw'⟩; subst w')
        | (go_at_call 45; refine (hw _).mono ?_; rintro e w' ⟨rfl, hw'⟩; subst w'))
      go_ret3
      exact ⟨⟨0, 0, rfl, fun h => by simp at h⟩, 0, rfl⟩
    rw [if_neg h3] at hq
    have h3' : ¬ (64 : Int) - (k : Int) < (Lib.bitLen q : Nat) := by omega
    obtain ⟨v2, t2, e2, hf⟩ : ∃ v2 t2 e2, rdF (V / 2 ^ (a + (q + 1))) (n - (a + (q + 1))) (k : Int) = (v2, t2, e2) := ⟨_, _, _, rfl⟩
    have hc2 := rd_fixed b rb V n (a + (q + 1)) v2 t2 e2 k w hc hr (by omega) hf
    unfold rdF at hf
    rw [if_neg (by omega)] at hf
    have hmul : ∀ l, l < 2 ^ k → q * 2 ^ k + l < 18446744073709551616 := fun l hl => rice_lt q k l (by omega) (by omega) hl
    have h64 := hmul 0 (Nat.two_pow_pos k)
    have e1 : IntKind.u64.wrap ((q : Int) * 2 ^ k) = (q : Int) * 2 ^ k := by
      have e : (q : Int) * 2 ^ k = ((q * 2 ^ k : Nat) : Int) := by simp
      rw [e, wrapU _ (Int.natCast_nonneg _) (Int.ofNat_lt.2 (by simpa using h64))]
    generalize Lib.bitLen q = B at *
    clear hr hT hn hc h3
    by_cases h2 : n - a < q + 1 + k
    · rw [if_pos h2] at hq
      rw [if_pos (by omega)] at hf
      simp only [Prod.mk.injEq] at hq hf
      obtain ⟨rfl, rfl, rfl⟩ := hq
      obtain ⟨rfl, rfl, rfl⟩ := hf
      have ho : bits .or .u64 ((q : Int) * 2 ^ k) 0 = ((q * 2 ^ k : Nat) : Int) := by
        have := or_add q 0 k (Nat.two_pow_pos k) h64
        simpa using this
      clear h2 hmul
      go_enter Tryd.func54, Tryd.ntmps54
      go_wp2_with (first
        | (go_at_call 60; refine hc1.mono ?_; rintro e w' ⟨rfl, hw'⟩; subst w')
        | (go_at_call 45; refine (hw _).mono ?_; rintro e w' ⟨rfl, hw'⟩; subst w')
        | (go_at_call 59; refine hc2.mono ?_; rintro e w' ⟨rfl, m, hw'⟩; subst w'))
      go_ret3
      exact ⟨⟨_, 0, rfl, fun h => by simp at h⟩, _, rfl⟩
    · rw [if_neg h2] at hq
      rw [if_neg (by omega)] at hf
      simp only [Prod.mk.injEq, Int.toNat_natCast] at hq hf
      obtain ⟨hv, rfl, rfl⟩ := hq
      obtain ⟨hv2, rfl, rfl⟩ := hf
      rw [div_more, hv2] at hv
      have hl2 : v2 < 2 ^ k := by rw [← hv2]; exact Nat.mod_lt _ (Nat.two_pow_pos _)
      have ho : bits .or .u64 ((q : Int) * 2 ^ k) (v2 : Int) = (v : Int) := by
        have := or_add q v2 k hl2 (hmul v2 hl2)
        rw [← hv]
        simpa using this
      have HV := Hid.mk hv
      clear h2 hv hv2 hmul
      go_enter Tryd.func54, Tryd.ntmps54
      go_wp2_with (first
        | (go_at_call 60; refine hc1.mono ?_; rintro e w' ⟨rfl, hw'⟩; subst w')
        | (go_at_call 45; refine (hw _).mono ?_; rintro e w' ⟨rfl, hw'⟩; subst w')
        | (go_at_call 59; refine hc2.mono ?_; rintro e w' ⟨rfl, m, hw'⟩; subst w'))
      go_ret3
      exact ⟨⟨v, a + (q + 1 + k), by simp; omega, fun _ => ⟨rfl, rfl⟩⟩, _, rfl⟩
  · rw [if_neg h0] at hq hc1
    simp only [Prod.mk.injEq] at hq
    obtain ⟨rfl, rfl, rfl⟩ := hq
    obtain ⟨rfl, he⟩ := nq_bad hn h0
    have hne : ((e : Int) != 0) = true := by simp; omega
    clear hr hT hn hc he
    go_enter Tryd.func54, Tryd.ntmps54
    go_wp2_with (go_at_call 60; refine hc1.mono ?_; rintro e w' ⟨rfl, hw'⟩; subst w')
    go_ret3
    exact ⟨⟨0, 0, rfl, fun h => absurd h h0⟩, 0, rfl⟩

set_option maxRecDepth 1000000 in
/-- What Fixed hands on. -/
theorem rd_fixed1 (b rb V n a v t er x1 x2 : Nat) (N : Int) (w : World) (hc : w.cell? ⟨b, 0, none⟩ = some (.pointer (some ⟨rb, 0, none⟩))) (hr : RowRd w rb V n) (ha : a ≤ n) (hq : rdF (V / 2 ^ a) (n - a) N = (v, t, er))
    (c1 : w.cell? ⟨x1, 0, none⟩ = some (.pointer (some ⟨b, 0, none⟩))) (c2 : w.cell? ⟨x2, 0, none⟩ = some (.int .i64 N)) :
    Calls Tryd.prog 58 #[.int .i64 a, .pointer (some ⟨x1, 0, none⟩), .pointer (some ⟨x2, 0, none⟩)] w fun e w' => Tells a v t er e ∧ ∃ j, w' = w.drewN j := by
  have hn := rd_fixed b rb V n a v t er N w hc hr ha hq
  have hz : ∃ z : Nat, (if er = 0 then ((a + t : Nat) : Int) else 0) = (z : Int) ∧ (er = 0 → z = a + t) := by
    by_cases h : er = 0
    · exact ⟨a + t, by rw [if_pos h], fun _ => rfl⟩
    · exact ⟨0, by rw [if_neg h]; rfl, fun h2 => absurd h2 h⟩
  obtain ⟨z, hz1, hz2⟩ := hz
  rw [hz1] at hn
  clear hc hr hq hz1
  go_enter Tryd.func58, Tryd.ntmps58
  go_wp2_with (go_at_call 59; refine hn.mono ?_; rintro e w' ⟨rfl, m, hw'⟩; subst w')
  go_ret3
  exact ⟨⟨_, _, rfl, fun h => ⟨rfl, hz2 h⟩⟩, _, rfl⟩

set_option maxRecDepth 1000000 in
/-- What Rice hands on. -/
theorem rd_rice1 (b rb V n a v t er x1 x2 : Nat) (N : Int) (w : World) (hc : w.cell? ⟨b, 0, none⟩ = some (.pointer (some ⟨rb, 0, none⟩))) (hr : RowRd w rb V n) (hT : TabIn w) (ha : a ≤ n) (hq : rdR (V / 2 ^ a) (n - a) N = (v, t, er))
    (c1 : w.cell? ⟨x1, 0, none⟩ = some (.pointer (some ⟨b, 0, none⟩))) (c2 : w.cell? ⟨x2, 0, none⟩ = some (.int .i64 N)) :
    Calls Tryd.prog 53 #[.int .i64 a, .pointer (some ⟨x1, 0, none⟩), .pointer (some ⟨x2, 0, none⟩)] w fun e w' => Tells a v t er e ∧ ∃ j, w' = w.drewN j := by
  have hn := rd_rice b rb V n a v t er N w hc hr hT ha hq
  clear hc hr hq hT
  go_enter Tryd.func53, Tryd.ntmps53
  go_wp2_with (go_at_call 54; refine hn.mono ?_; rintro e w' ⟨⟨v', z, rfl, ht⟩, m, hw'⟩; subst w')
  go_ret3
  exact ⟨⟨_, _, rfl, ht⟩, _, rfl⟩

end Go.Proofs.YtgcjbkcfcklcfaaDoor
