/-
  stream's Reader: unary, gamma, rice.
-/
import Derived.Test.YtgcjbkcfcklcfaaDoorStreamRead
namespace Go.Proofs.YtgcjbkcfcklcfaaDoor
open Go.RowKit

theorem div_more (V a q : Nat) : V / 2 ^ a / 2 ^ q = V / 2 ^ (a + q) := by rw [Nat.div_div_eq_div_mul, Nat.pow_add]

set_option maxRecDepth 1000000 in
theorem rd_unary0 (b rb V n a q er : Nat) (w : World) (hc : w.cell? ⟨b, 0, none⟩ = some (.pointer (some ⟨rb, 0, none⟩))) (hr : RowRd w rb V n) (hT : TabIn w) (ha : a ≤ n) (hq : nq (V / 2 ^ a) (n - a) 4096 = (q, er)) :
    Calls Tryd.prog 60 #[.pointer (some ⟨b, 0, none⟩), .int .i64 a] w fun e w' => e = .returned (.tuple #[.int .u64 q, .int .i64 (if er = 0 then ((a + (q + 1) : Nat) : Int) else 0), .int .i64 er]) ∧ w' = w := by
  have hn := rd_noughts b rb V n a 4096 q er w hc hr hT ha (by decide) hq
  generalize (if er = 0 then ((a + (q + 1) : Nat) : Int) else 0) = Z at *
  clear hr hT hc hq
  go_enter Tryd.func60, Tryd.ntmps60
  go_wp2_with (go_at_call 63; refine hn.mono ?_; rintro e w' ⟨rfl, hw'⟩; subst w')
  go_ret3
  exact ⟨rfl, rfl⟩

theorem rd_unary (b rb V n a v t er : Nat) (w : World) (hc : w.cell? ⟨b, 0, none⟩ = some (.pointer (some ⟨rb, 0, none⟩))) (hr : RowRd w rb V n) (hT : TabIn w) (ha : a ≤ n) (hq : rdU (V / 2 ^ a) (n - a) = (v, t, er)) :
    Calls Tryd.prog 60 #[.pointer (some ⟨b, 0, none⟩), .int .i64 a] w fun e w' => Tells a v t er e ∧ ∃ j, w' = w.drewN j := by
  obtain ⟨q, e, hn⟩ : ∃ q e, nq (V / 2 ^ a) (n - a) 4096 = (q, e) := ⟨_, _, rfl⟩
  refine (rd_unary0 b rb V n a q e w hc hr hT ha hn).mono fun en w' ⟨he, hw⟩ => ⟨?_, 0, hw⟩
  unfold rdU at hq
  rw [hn] at hq
  simp only at hq
  by_cases h0 : e = 0
  · rw [if_pos h0] at hq
    simp only [Prod.mk.injEq] at hq
    obtain ⟨rfl, rfl, rfl⟩ := hq
    subst h0
    exact ⟨_, _, he, fun _ => ⟨rfl, rfl⟩⟩
  · rw [if_neg h0] at hq
    simp only [Prod.mk.injEq] at hq
    obtain ⟨rfl, rfl, rfl⟩ := hq
    rw [if_neg h0] at he
    exact ⟨_, 0, he, fun h => absurd h h0⟩

theorem or_add (x l k : Nat) (hl : l < 2 ^ k) (h : x * 2 ^ k + l < 18446744073709551616) : bits .or .u64 ((x * 2 ^ k : Nat) : Int) (l : Int) = ((x * 2 ^ k + l : Nat) : Int) := by
  rw [u64_or_nat _ _ (by omega) (by omega), Nat.mul_comm, Nat.two_pow_add_eq_or_of_lt hl]

set_option maxHeartbeats 800000 in
set_option maxRecDepth 1000000 in
theorem rd_gamma (b rb V n a v t er : Nat) (w : World) (hc : w.cell? ⟨b, 0, none⟩ = some (.pointer (some ⟨rb, 0, none⟩))) (hr : RowRd w rb V n) (hT : TabIn w) (ha : a ≤ n) (hq : rdG (V / 2 ^ a) (n - a) = (v, t, er)) :
    Calls Tryd.prog 52 #[.pointer (some ⟨b, 0, none⟩), .int .i64 a] w fun e w' => Tells a v t er e ∧ ∃ j, w' = w.drewN j := by
  obtain ⟨q, e, hn⟩ : ∃ q e, nq (V / 2 ^ a) (n - a) 63 = (q, e) := ⟨_, _, rfl⟩
  have hc1 := rd_noughts b rb V n a 63 q e w hc hr hT ha (by decide) hn
  unfold rdG at hq
  rw [hn] at hq
  simp only at hq
  by_cases h0 : e = 0
  · rw [if_pos h0] at hq hc1
    subst h0
    obtain ⟨q63, qm⟩ := nq_ok hn
    obtain ⟨v2, t2, e2, hf⟩ : ∃ v2 t2 e2, rdF (V / 2 ^ (a + (q + 1))) (n - (a + (q + 1))) (q : Int) = (v2, t2, e2) := ⟨_, _, _, rfl⟩
    have hc2 := rd_fixed b rb V n (a + (q + 1)) v2 t2 e2 q w hc hr (by omega) hf
    unfold rdF at hf
    rw [if_neg (by omega)] at hf
    have hwq : IntKind.i64.wrap (q : Int) = (q : Int) := by rw [IntKind.wrap_i64]; omega
    have h64 : 2 ^ q < 18446744073709551616 := by
      have h1 := pow_lt64 (show q < 64 by omega)
      rw [Nat.pow_succ] at h1
      have := Nat.two_pow_pos q
      omega
    have e1 : IntKind.u64.wrap (2 ^ q) = (2 : Int) ^ q := by
      have e : (2 ^ q : Int) = ((2 ^ q : Nat) : Int) := by simp
      rw [e, wrapU _ (Int.natCast_nonneg _) (Int.ofNat_lt.2 h64)]
    have hlen := hr.len
    clear hr hT hn hc
    by_cases h2 : n - a < q + 1 + q
    · rw [if_pos h2] at hq
      rw [if_pos (by omega)] at hf
      simp only [Prod.mk.injEq] at hq hf
      obtain ⟨rfl, rfl, rfl⟩ := hq
      obtain ⟨rfl, rfl, rfl⟩ := hf
      have ho : bits .or .u64 ((2 : Int) ^ q) 0 = ((2 ^ q : Nat) : Int) := by
        have := or_add 1 0 q (Nat.two_pow_pos q) (by simpa using h64)
        simpa using this
      clear h2
      go_enter Tryd.func52, Tryd.ntmps52
      go_wp2_with (first
        | (go_at_call 63; refine hc1.mono ?_; rintro e w' ⟨rfl, hw'⟩; subst w')
        | (go_at_call 59; refine hc2.mono ?_; rintro e w' ⟨rfl, m, hw'⟩; subst w'))
      go_ret3
      exact ⟨⟨_, 0, rfl, fun h => by simp at h⟩, _, rfl⟩
    · rw [if_neg h2] at hq
      rw [if_neg (by omega)] at hf
      simp only [Prod.mk.injEq, Int.toNat_natCast] at hq hf
      obtain ⟨hv, rfl, rfl⟩ := hq
      obtain ⟨hv2, rfl, rfl⟩ := hf
      rw [div_more, hv2] at hv
      have hl2 : v2 < 2 ^ q := by rw [← hv2]; exact Nat.mod_lt _ (Nat.two_pow_pos _)
      have h64b : 2 ^ q + v2 < 18446744073709551616 := by
        have h1 := pow_lt64 (show q < 64 by omega)
        rw [Nat.pow_succ] at h1
        omega
      have ho : bits .or .u64 ((2 : Int) ^ q) (v2 : Int) = (v : Int) := by
        have := or_add 1 v2 q hl2 (by simpa using h64b)
        rw [← hv]
        simpa using this
      have HV := Hid.mk hv
      clear h2 hv hv2
      go_enter Tryd.func52, Tryd.ntmps52
      go_wp2_with (first
        | (go_at_call 63; refine hc1.mono ?_; rintro e w' ⟨rfl, hw'⟩; subst w')
        | (go_at_call 59; refine hc2.mono ?_; rintro e w' ⟨rfl, m, hw'⟩; subst w'))
      go_ret3
      exact ⟨⟨v, a + (q + 1 + q), by simp; omega, fun _ => ⟨rfl, rfl⟩⟩, _, rfl⟩
  · rw [if_neg h0] at hq hc1
    simp only [Prod.mk.injEq] at hq
    obtain ⟨rfl, rfl, rfl⟩ := hq
    obtain ⟨rfl, he⟩ := nq_bad hn h0
    have hne : ((e : Int) != 0) = true := by simp; omega
    clear hr hT hn hc he
    go_enter Tryd.func52, Tryd.ntmps52
    go_wp2_with (go_at_call 63; refine hc1.mono ?_; rintro e w' ⟨rfl, hw'⟩; subst w')
    go_ret3
    exact ⟨⟨0, 0, rfl, fun h => absurd h h0⟩, 0, rfl⟩

end Go.Proofs.YtgcjbkcfcklcfaaDoor
