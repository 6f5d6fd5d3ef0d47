/-
  Walks over lane.Ones, Rank, Select, Mask, the document's own Bit, Rank, Select and math/bits.OnesCount64: each call returns what the plain functions of YtbfolfacppbalaaDoorMath tell, and leaves the world as it was.
  Walks over lane.Cut, lane.Width and the document's own: each call returns what the plain functions of YtbfolfacppbalaaDoorMath tell.
  math/bits.TrailingZeros64 finds the lowest one of a word that is not 0.
-/
import Derived.Test.YtbfolfacppbalaaDoorRows
import Derived.Test.YtbfolfacppbalaaDoorPlainA
import Derived.WalkKit
import Derived.ProofKit
import Derived.Laws.Bits128
import Derived.Lib.Walk
import Derived.Lib.BitFns
import Derived.BigQuiet
import Derived.Deep.Light
import Derived.Lib.TrailingZeros
namespace Go.Proofs.YtbfolfacppbalaaDoor
open Go.RowKit

theorem wrapU (z : Int) (h0 : 0 ≤ z) (h1 : z < 18446744073709551616) : IntKind.u64.wrap z = z := by
  rw [IntKind.wrap_u64]; omega

theorem half_wrap (y : Nat) (hy : y < 18446744073709551616) : IntKind.u64.wrap ((y : Int).tdiv 2) = ((y / 2 : Nat) : Int) := by
  rw [Int.tdiv_eq_ediv_of_nonneg (by omega), wrapU _ (by omega) (by omega)]; omega

/-- Is the bit i of x one? -/
def btI (x : Nat) (i : Int) : Bool := decide (0 ≤ i ∧ i ≤ 63 ∧ x / 2 ^ i.toNat % 2 = 1)

theorem btI_one {x n : Nat} (h : btI x n = true) : x / 2 ^ n % 2 = 1 := by
  simpa [btI] using (of_decide_eq_true h).2.2
theorem btI_nought {x n : Nat} (hn : n ≤ 63) (h : btI x n = false) : x / 2 ^ n % 2 = 0 := by
  have := of_decide_eq_false h
  simp at this
  have h2 := this (by omega)
  omega

theorem ref_Bit (x : Nat) (hx : x < 18446744073709551616) (i : Int) (w : World) :
    Calls Tryd.prog 57 #[.int .u64 x, .int .i64 i] w fun e w' => e = .returned (.bool (btI x i)) ∧ w' = w := by
  by_cases h0 : i < 0
  · have hb : btI x i = false := by simp [btI]; omega
    rw [hb]
    go_enter Tryd.func57, Tryd.ntmps57
    go_wp2
    go_ret
    exact ⟨rfl, rfl⟩
  by_cases h1 : 63 < i
  · have hb : btI x i = false := by simp [btI]; omega
    rw [hb]
    go_enter Tryd.func57, Tryd.ntmps57
    go_wp2
    go_ret
    exact ⟨rfl, rfl⟩
  obtain ⟨i, rfl⟩ := Int.eq_ofNat_of_zero_le (show 0 ≤ i by omega)
  have hb : btI x i = decide (x / 2 ^ i % 2 = 1) := by simp [btI]; omega
  rw [hb]
  clear hb
  go_enter Tryd.func57, Tryd.ntmps57
  go_wp2
  go_loop [0, 5] (fun v k => ∃ n y : Nat, n ≤ i ∧ k = .int .i64 n ∧ v = .int .u64 y ∧ x / 2 ^ n = y ∧ y < 18446744073709551616)
                 (fun _ k => i - (intOf k).toNat)
  case atStart => exact ⟨0, x, Nat.zero_le _, rfl, rfl, by simp, hx⟩
  case round =>
    obtain ⟨n, y, hn, rfl, rfl, hy, hy2⟩ := hrel
    go_wp2
    · have hlt : n < i := by assumption
      go_round
      case rel => exact ⟨n + 1, y / 2, by omega, by go_num, by go_num, by rw [Nat.pow_succ, ← Nat.div_div_eq_div_mul, hy], by omega⟩
      case measure => simp [intOf]; omega
    · have hge : ¬ n < i := by assumption
      have hni : n = i := by omega
      go_ret
      subst hni
      refine ⟨?_, rfl⟩
      rw [hy]
      have e : ((y : Int) % 2 == 1) = decide (y % 2 = 1) := by
        by_cases hh : y % 2 = 1
        · simp [hh]; omega
        · simp [hh]; omega
      exact congrArg (fun b => Ending.returned (Value.bool b)) e

theorem and_nat (a b : Nat) (ha : a < 18446744073709551616) (hb : b < 18446744073709551616) : bits .and .u64 (a : Int) (b : Int) = ((a &&& b : Nat) : Int) := u64_and_nat a b ha hb

theorem c1 (x : Nat) (hx : x < 18446744073709551616) : IntKind.u64.wrap (bits .and .u64 ((x : Int) / 2) 6148914691236517205 + bits .and .u64 (x : Int) 6148914691236517205) = (s1 x : Int) := by
  have e1 := and_nat (x / 2) 6148914691236517205 (by omega) (by omega)
  have e2 := and_nat x 6148914691236517205 hx (by omega)
  have l := s1_lt x
  rw [show ((x : Int) / 2) = ((x / 2 : Nat) : Int) by omega, show (6148914691236517205 : Int) = ((6148914691236517205 : Nat) : Int) from rfl, e1, e2, wrapU _ (by omega) (by unfold s1 at l; omega)]
  unfold s1
  omega
theorem c2 (x : Nat) (hx : x < 18446744073709551616) : IntKind.u64.wrap (bits .and .u64 ((x : Int) / 4) 3689348814741910323 + bits .and .u64 (x : Int) 3689348814741910323) = (s2 x : Int) := by
  have e1 := and_nat (x / 4) 3689348814741910323 (by omega) (by omega)
  have e2 := and_nat x 3689348814741910323 hx (by omega)
  have l := s2_lt x
  rw [show ((x : Int) / 4) = ((x / 4 : Nat) : Int) by omega, show (3689348814741910323 : Int) = ((3689348814741910323 : Nat) : Int) from rfl, e1, e2, wrapU _ (by omega) (by unfold s2 at l; omega)]
  unfold s2
  omega
theorem c3 (x : Nat) (hx : x < 9223372036854775808) : bits .and .u64 (IntKind.u64.wrap ((x : Int) / 16 + (x : Int))) 1085102592571150095 = (s3 x : Int) := by
  rw [wrapU _ (by omega) (by omega), show ((x : Int) / 16 + x) = ((x / 16 + x : Nat) : Int) by omega]
  exact and_nat (x / 16 + x) 1085102592571150095 (by omega) (by omega)

theorem onesCount (x : Nat) (hx : x < 18446744073709551616) (w : World) :
    Calls Tryd.prog 113 #[.int .u64 x] w fun e w' => e = .returned (.int .i64 (rk x 64)) ∧ w' = w := by
  have f1 := c1 x hx
  have f2 := c2 (s1 x) (s1_lt x)
  have f3 := c3 (s2 (s1 x)) (s2_lt _)
  obtain ⟨y4, y5, y6, g1, g2, g3, g4, g5, g6, g7, g8⟩ := s_fold x hx
  generalize s3 (s2 (s1 x)) = y3 at *
  generalize s2 (s1 x) = y2 at *
  generalize s1 x = y1 at *
  generalize rk x 64 = r at *
  have f4 : IntKind.u64.wrap ((y3 : Int) + (y3 : Int) / 256) = (y4 : Int) := by rw [wrapU _ (by omega) (by omega)]; omega
  have f5 : IntKind.u64.wrap ((y4 : Int) + (y4 : Int) / 65536) = (y5 : Int) := by rw [wrapU _ (by omega) (by omega)]; omega
  have f6 : IntKind.u64.wrap ((y5 : Int) + (y5 : Int) / 4294967296) = (y6 : Int) := by rw [wrapU _ (by omega) (by omega)]; omega
  clear g1 g2 g3 g4 g5 g6
  go_enter Tryd.func113, Tryd.ntmps113
  go_wp2
  go_ret
  refine ⟨congrArg (fun z => Ending.returned (Value.int .i64 z)) ?_, rfl⟩
  rw [i64_and127]
  omega

theorem pow_le64 {m : Nat} (h : m ≤ 64) : 2 ^ m ≤ 18446744073709551616 := by
  have := Nat.pow_le_pow_right (n := 2) (by omega) h
  simpa using this

theorem mask_val (m : Nat) (h : m ≤ 64) : IntKind.u64.wrap (IntKind.u64.wrap (2 ^ m) - 1) = ((2 ^ m - 1 : Nat) : Int) := by
  have h1 := pow_le64 h
  have h2 := Nat.two_pow_pos m
  have e : (2 ^ m : Int) = ((2 ^ m : Nat) : Int) := by simp
  rw [e, IntKind.wrap_u64, IntKind.wrap_u64]
  generalize 2 ^ m = p at *
  omega

theorem mask (n : Int) (w : World) :
    Calls Tryd.prog 87 #[.int .i64 n] w fun e w' => e = .returned (.int .u64 (2 ^ (min 64 n.toNat) - 1 : Nat)) ∧ w' = w := by
  have e : (min (max n 0) 64).toNat = min 64 n.toNat := by omega
  go_enter Tryd.func87, Tryd.ntmps87
  go_wp2
  go_ret
  exact ⟨congrArg (fun z => Ending.returned (Value.int .u64 z)) (mask_val _ (by omega)), rfl⟩

theorem ones (x : Nat) (hx : x < 18446744073709551616) (w : World) :
    Calls Tryd.prog 105 #[.int .u64 x] w fun e w' => e = .returned (.int .i64 (rk x 64)) ∧ w' = w := by
  go_enter Tryd.func105, Tryd.ntmps105
  go_wp2_with (go_at_call 113; refine (onesCount x hx _).mono ?_; rintro e w' ⟨rfl, rfl⟩)
  go_ret
  exact ⟨rfl, rfl⟩

theorem lane_Rank (x : Nat) (hx : x < 18446744073709551616) (i : Int) (w : World) :
    Calls Tryd.prog 116 #[.int .u64 x, .int .i64 i] w fun e w' => e = .returned (.int .i64 (rk x (min 64 i.toNat))) ∧ w' = w := by
  have hm : 2 ^ min 64 i.toNat - 1 < 18446744073709551616 := by
    have := pow_le64 (m := min 64 i.toNat) (by omega)
    omega
  have e1 := and_nat x _ hx hm
  have e2 := rk_mask x (min 64 i.toNat) (by omega)
  have e3 : x &&& (2 ^ min 64 i.toNat - 1) < 18446744073709551616 := Nat.lt_of_le_of_lt Nat.and_le_left hx
  rw [← e2]
  clear e2
  have K := mask i
  generalize 2 ^ min 64 i.toNat - 1 = mm at *
  generalize x &&& mm = y at *
  go_enter Tryd.func116, Tryd.ntmps116
  go_wp2_with (first | (go_at_call 87; refine (K _).mono ?_; rintro e w' ⟨rfl, rfl⟩) | (go_at_call 105; refine (ones y e3 _).mono ?_; rintro e w' ⟨rfl, rfl⟩))
  go_ret
  exact ⟨rfl, rfl⟩
/-- H is a power of two up to 32 and T twice as much; or H is 0, and T 1. -/
def pow2 (H T : Nat) : Prop := (H = 32 ∧ T = 64) ∨ (H = 16 ∧ T = 32) ∨ (H = 8 ∧ T = 16) ∨ (H = 4 ∧ T = 8) ∨ (H = 2 ∧ T = 4) ∨ (H = 1 ∧ T = 2) ∨ (H = 0 ∧ T = 1)

theorem pow2_step {H T : Nat} (h : pow2 H T) (h0 : 0 < H) : pow2 (H / 2) H ∧ T = H + H := by
  unfold pow2 at h ⊢
  rcases h with ⟨rfl, rfl⟩ | ⟨rfl, rfl⟩ | ⟨rfl, rfl⟩ | ⟨rfl, rfl⟩ | ⟨rfl, rfl⟩ | ⟨rfl, rfl⟩ | ⟨rfl, rfl⟩ <;> simp_all
theorem pow2_zero {H T : Nat} (h : pow2 H T) (h0 : ¬ 0 < H) : T = 1 := by
  unfold pow2 at h
  omega

theorem lane_Select (x : Nat) (hx : x < 18446744073709551616) (k : Int) (w : World) :
    Calls Tryd.prog 112 #[.int .u64 x, .int .i64 k] w fun e w' => e = .returned (.int .i64 (sel x k 64)) ∧ w' = w := by
  by_cases h0 : k < 0
  · rw [sel_out x k (Or.inl h0)]
    go_enter Tryd.func112, Tryd.ntmps112
    go_wp2_with (go_at_call 105; refine (ones x hx _).mono ?_; rintro e w' ⟨rfl, rfl⟩)
    go_ret
    exact ⟨rfl, rfl⟩
  by_cases h1 : (rk x 64 : Int) ≤ k
  · rw [sel_out x k (Or.inr h1)]
    go_enter Tryd.func112, Tryd.ntmps112
    go_wp2_with (go_at_call 105; refine (ones x hx _).mono ?_; rintro e w' ⟨rfl, rfl⟩)
    go_ret
    exact ⟨rfl, rfl⟩
  obtain ⟨k, rfl⟩ := Int.eq_ofNat_of_zero_le (show 0 ≤ k by omega)
  have hN : ¬ rk x 64 ≤ k := by omega
  go_enter Tryd.func112, Tryd.ntmps112
  go_wp2_with (go_at_call 105; refine (ones x hx _).mono ?_; rintro e w' ⟨rfl, rfl⟩)
  have hK : k < rk x 64 := by omega
  go_loop [0, 1, 5, 6] (fun v kk at_ h => ∃ V K A H T : Nat, v = .int .u64 V ∧ kk = .int .i64 K ∧ at_ = .int .i64 A ∧ h = .int .i64 H ∧ V < 18446744073709551616 ∧ Hid (x / 2 ^ A = V) ∧ Hid (K < rk V T ∧ K + rk x A = k) ∧ A + T ≤ 64 ∧ K < 64 ∧ Hid (pow2 H T) ∧ H ≤ 32)
       (fun _ _ _ h => (intOf h).toNat)
  case atStart => exact ⟨x, k, 0, 32, 64, rfl, rfl, rfl, rfl, hx, (show x / 2 ^ 0 = x by simp), (show _ ∧ _ from ⟨hK, by simp [rk]⟩), by omega, by have := rk_le x 64; omega, (show pow2 32 64 by simp [pow2]), by omega⟩
  case round =>
    obtain ⟨V, K, A, H, T, rfl, rfl, rfl, rfl, hV, hA, hT, hAT, hK64, hP, hH⟩ := hrel
    clear h0 h1 hK hN
    go_wp2_with (go_at_call 116; refine (lane_Rank V hV _ _).mono ?_; rintro e w' ⟨rfl, rfl⟩)
    · have hH0 : 0 < H := by assumption
      have hB : rk V (min 64 H) ≤ K := by assumption
      have hA := hA.out
      have hT := hT.out
      have hP := hP.out
      have e1 : min 64 H = H := by omega
      obtain ⟨hP2, e2⟩ := pow2_step hP hH0
      have e3 : rk V T = rk V H + rk (V / 2 ^ H) H := by rw [e2, rk_add]
      have e4 : x / 2 ^ (A + H) = V / 2 ^ H := by rw [Nat.pow_add, ← Nat.div_div_eq_div_mul, hA]
      have e5 : rk x (A + H) = rk x A + rk V H := by rw [rk_add, hA]
      have e6 := Nat.div_le_self V (2 ^ H)
      rw [e1] at hB
      go_round
      case rel => exact ⟨V / 2 ^ H, K - rk V H, A + H, H / 2, H, by simp, by rw [e1]; go_num, by go_num, by go_num, by omega, e4, (show _ ∧ _ by omega), by omega, by omega, hP2, by omega⟩
      case measure => simp [intOf]; omega
    · have hH0 : 0 < H := by assumption
      have hB : ¬ rk V (min 64 H) ≤ K := by assumption
      have hT := hT.out
      have hP := hP.out
      have e1 : min 64 H = H := by omega
      obtain ⟨hP2, e2⟩ := pow2_step hP hH0
      rw [e1] at hB
      go_round
      case rel => exact ⟨V, K, A, H / 2, H, rfl, rfl, rfl, by go_num, hV, hA, (show _ ∧ _ by omega), by omega, by omega, hP2, by omega⟩
      case measure => simp [intOf]; omega
    · have hH0 : ¬ 0 < H := by assumption
      have hA := hA.out
      have hT := hT.out
      have hP := hP.out
      have e2 : T = 1 := pow2_zero hP hH0
      subst e2
      have e3 : rk V 1 = V % 2 := by simp [rk]
      have e4 := sel_of x k 64 A (by omega) (by rw [hA]; omega) (by omega)
      go_ret
      exact ⟨congrArg (fun z => Ending.returned (Value.int .i64 z)) e4.symm, rfl⟩

end Go.Proofs.YtbfolfacppbalaaDoor

namespace Go.Proofs.YtbfolfacppbalaaDoor
open Go.RowKit

theorem and_mask (y m : Nat) (hy : y < 18446744073709551616) (hm : m ≤ 64) : bits .and .u64 (y : Int) ((2 ^ m - 1 : Nat) : Int) = ((y % 2 ^ m : Nat) : Int) := by
  have h1 := pow_le64 hm
  have h2 := Nat.two_pow_pos m
  rw [and_nat y _ hy (by omega), Nat.and_two_pow_sub_one_eq_mod]

theorem lane_Cut (x : Nat) (hx : x < 18446744073709551616) (at_ n : Int) (w : World) :
    Calls Tryd.prog 82 #[.int .u64 x, .int .i64 at_, .int .i64 n] w fun e w' => e = .returned (.int .u64 (sh x at_ % 2 ^ (min 64 n.toNat) : Nat)) ∧ ∃ m, w' = w.drewN m := by
  by_cases h0 : at_ ≤ -64
  · rw [sh_out x at_ (Or.inl h0), Nat.zero_mod]
    go_enter Tryd.func82, Tryd.ntmps82
    go_wp2
    go_ret
    exact ⟨rfl, 0, rfl⟩
  by_cases h1 : 64 ≤ at_
  · rw [sh_out x at_ (Or.inr h1), Nat.zero_mod]
    go_enter Tryd.func82, Tryd.ntmps82
    go_wp2
    go_ret
    exact ⟨rfl, 0, rfl⟩
  by_cases h2 : at_ < 0
  · have K := mask n
    obtain ⟨s, hs⟩ := Int.eq_ofNat_of_zero_le (show 0 ≤ -at_ by omega)
    obtain rfl : at_ = -(s : Int) := by omega
    have e : sh x (-(s : Int)) % 2 ^ min 64 n.toNat = (x * 2 ^ s) % 18446744073709551616 % 2 ^ min 64 n.toNat := by
      unfold sh
      rw [if_neg (by omega), if_pos h2]
      simp only [Int.neg_neg, Int.toNat_natCast]
      exact (mod_mod_pow _ _ 64 (by omega)).symm
    rw [e]
    have hand := and_mask ((x * 2 ^ s) % 18446744073709551616) (min 64 n.toNat) (by omega) (by omega)
    generalize min 64 n.toNat = m at *
    generalize 2 ^ m - 1 = mm at *
    have hws : IntKind.i64.wrap (s : Int) = s := by rw [IntKind.wrap_i64]; omega
    have hs64 : s < 64 := by omega
    clear hs e
    go_enter Tryd.func82, Tryd.ntmps82
    go_wp2
    go_quiet ((go_at_call 87; refine Calls.quiet_of_same (K _)))
    go_wp2
    go_ret
    refine ⟨congrArg (fun z => Ending.returned (Value.int .u64 z)) ?_, _, rfl⟩
    rw [← hand, IntKind.wrap_u64]
    simp
  · have K := mask n
    obtain ⟨s, hs⟩ := Int.eq_ofNat_of_zero_le (show 0 ≤ at_ by omega)
    subst hs
    have e : sh x (s : Int) = x / 2 ^ s := by
      unfold sh
      rw [if_neg (by omega), if_neg h2]
      simp only [Int.toNat_natCast]
    rw [e]
    have hle := Nat.div_le_self x (2 ^ s)
    have hand := and_mask (x / 2 ^ s) (min 64 n.toNat) (by omega) (by omega)
    generalize min 64 n.toNat = m at *
    generalize 2 ^ m - 1 = mm at *
    go_enter Tryd.func82, Tryd.ntmps82
    go_wp2
    go_quiet ((go_at_call 87; refine Calls.quiet_of_same (K _)))
    go_wp2
    go_ret
    refine ⟨congrArg (fun z => Ending.returned (Value.int .u64 z)) ?_, _, rfl⟩
    rw [← hand]
    simp

theorem pow_lt64 {k : Nat} (h : k < 64) : 2 ^ (k + 1) ≤ 18446744073709551616 := pow_le64 (by omega)

theorem cut_one (y k O P : Nat) (hk : k < 64) (hO : O = y % 2 ^ k) (hP : P = 2 ^ k % 18446744073709551616) (hb : y / 2 ^ k % 2 = 1) : IntKind.u64.wrap ((O : Int) + (P : Int)) = ((y % 2 ^ (k + 1) : Nat) : Int) := by
  have h1 := pow_lt64 hk
  have h2 : 2 ^ (k + 1) = 2 * 2 ^ k := by rw [Nat.pow_succ, Nat.mul_comm]
  have h3 : y % 2 ^ k < 2 ^ k := Nat.mod_lt _ (Nat.two_pow_pos k)
  rw [mod_succ, hb, hO, hP]
  generalize 2 ^ k = p at *
  generalize y % p = q at *
  rw [IntKind.wrap_u64]
  omega
theorem cut_nought (y k : Nat) (hb : ¬ y / 2 ^ k % 2 = 1) : y % 2 ^ (k + 1) = y % 2 ^ k := by
  rw [mod_succ, show y / 2 ^ k % 2 = 0 by omega]
  omega
theorem cut_twice (k P : Nat) (hP : P = 2 ^ k % 18446744073709551616) : IntKind.u64.wrap ((P : Int) * 2) = ((2 ^ (k + 1) % 18446744073709551616 : Nat) : Int) := by
  have h2 : 2 ^ (k + 1) = 2 * 2 ^ k := by rw [Nat.pow_succ, Nat.mul_comm]
  rw [hP, h2]
  generalize 2 ^ k = p at *
  rw [IntKind.wrap_u64]
  omega
theorem mod_lt64 (y k : Nat) (h : k ≤ 64) : y % 2 ^ k < 18446744073709551616 := by
  have := Nat.mod_lt y (Nat.two_pow_pos k)
  have := pow_le64 h
  omega
theorem cut_end (y k m O : Nat) (hO : O = y % 2 ^ k) (h : m = k) : (O : Int) = (y : Int) % 2 ^ m := by
  subst h; rw [hO]; simp

theorem ref_Width (x : Nat) (hx : x < 18446744073709551616) (w : World) :
    Calls Tryd.prog 63 #[.int .u64 x] w fun e w' => e = .returned (.int .i64 (Lib.bitLen x)) ∧ w' = w := by
  have hle := Lib.bitLen_le x 64 (by omega) hx
  go_enter Tryd.func63, Tryd.ntmps63
  go_wp2
  go_loop [0, 3] (fun v n => ∃ V N : Nat, v = .int .u64 V ∧ n = .int .i64 N ∧ V < 18446744073709551616 ∧ N ≤ 64 ∧ Hid (N + Lib.bitLen V = Lib.bitLen x)) (fun v _ => (intOf v).toNat)
  case atStart => exact ⟨x, 0, rfl, rfl, hx, by omega, Nat.zero_add _⟩
  case round =>
    obtain ⟨V, N, rfl, rfl, hV, hN, hB⟩ := hrel
    go_wp2
    · have h0 : 0 < V := by assumption
      have hB := hB.out
      have hh := Lib.bitLen_half V (by omega) hV
      go_round
      case rel => exact ⟨V / 2, N + 1, by go_num, by go_num, by omega, by omega, (show _ = _ by omega)⟩
      case measure => simp [intOf]; omega
    · have h0 : ¬ 0 < V := by assumption
      have hB := hB.out
      obtain rfl : V = 0 := by omega
      have hz : Lib.bitLen 0 = 0 := by decide +kernel
      go_ret
      exact ⟨congrArg (fun z => Ending.returned (Value.int .i64 z)) (by rw [← hB, hz]; rfl), rfl⟩

set_option maxRecDepth 100000 in
theorem tab_size : Lib.len8tab.size = 256 := by decide +kernel
theorem tab_at (n : Nat) (h : n < Lib.len8tab.size) : (Lib.len8tab[n]'h).toNat = Lib.bitLen n := by
  have e := Lib.len8_eq ⟨n, by rw [tab_size] at h; exact h⟩
  unfold Lib.len8 at e
  simp only [Int.toNat_natCast] at e
  rw [getElem?_pos Lib.len8tab n h] at e
  exact Int.ofNat.inj e
theorem len_way_plain (x k y : Nat) (h1 : x < 18446744073709551616) (hk : k ≤ 56) (hle : 2 ^ k ≤ x ∨ k = 0) (hy : y = x / 2 ^ k) (hb : Lib.bitLen y ≤ 8) :
    wrap64 ((k : Int) + wrap64 (Lib.bitLen y : Int)) = (Lib.bitLen x : Int) := by
  have s : Lib.bitLen x = k + Lib.bitLen (x / 2 ^ k) := by
    rcases hle with hle | rfl
    · exact Lib.bitLen_shift k x hle h1
    · simp
  rw [s, ← hy]
  clear s hle
  generalize Lib.bitLen y = b at *
  unfold wrap64
  omega
/-- What each way through Len64 ends in. -/
theorem len_way (x y : Int) (k : Nat) (h1 : x ≤ 18446744073709551615) (h0 : 0 ≤ x) (hk : k ≤ 56) (hle : 2 ^ k ≤ x.toNat ∨ k = 0) (hy : y.toNat = x.toNat / 2 ^ k) (h : y.toNat < Lib.len8tab.size) :
    wrap64 ((k : Int) + wrap64 ((Lib.len8tab[y.toNat]'h).toNat : Int)) = (Lib.bitLen x.toNat : Int) := by
  have h2 : x.toNat < 18446744073709551616 := by clear h; omega
  have l := Lib.bitLen_le8 ⟨y.toNat, by rw [← tab_size]; exact h⟩
  rw [tab_at y.toNat h]
  exact len_way_plain x.toNat k y.toNat h2 hk hle hy l

set_option maxHeartbeats 4000000 in
set_option maxRecDepth 100000 in
theorem len64 (x : Int) (w : World) (h0 : 0 ≤ x) (h1 : x ≤ 18446744073709551615) :
    Calls Tryd.prog 89 #[.int .u64 x] w fun e w' => e = .returned (.int .i64 (Lib.bitLen x.toNat)) ∧ w' = w := by
  have hs : (Lib.len8tab.size : Int) = 256 := by rw [tab_size]; rfl
  go_enter Tryd.func89, Tryd.ntmps89
  go_wp2
  all_goals (go_ret; refine ⟨congrArg (fun z => Ending.returned (Value.int .i64 z)) ?_, rfl⟩; go_light)
  · exact len_way x (x / 4294967296 / 65536 / 256) 56 h1 h0 (by omega) (by omega) (by omega) _
  · exact len_way x (x / 4294967296 / 65536) 48 h1 h0 (by omega) (by omega) (by omega) _
  · exact len_way x (x / 4294967296 / 256) 40 h1 h0 (by omega) (by omega) (by omega) _
  · exact len_way x (x / 4294967296) 32 h1 h0 (by omega) (by omega) (by omega) _
  · exact len_way x (x / 65536 / 256) 24 h1 h0 (by omega) (by omega) (by omega) _
  · exact len_way x (x / 65536) 16 h1 h0 (by omega) (by omega) (by omega) _
  · exact len_way x (x / 256) 8 h1 h0 (by omega) (by omega) (by omega) _
  · have := len_way x x 0 h1 h0 (by omega) (by omega) (by simp) (by rw [tab_size]; omega)
    simpa using this

theorem lane_Width (x : Nat) (hx : x < 18446744073709551616) (w : World) :
    Calls Tryd.prog 60 #[.int .u64 x] w fun e w' => e = .returned (.int .i64 (Lib.bitLen x)) ∧ w' = w := by
  have K := fun w => len64 x w (by omega) (by omega)
  simp only [Int.toNat_natCast] at K
  go_enter Tryd.func60, Tryd.ntmps60
  go_wp2_with (go_at_call 89; refine (K _).mono ?_; rintro e w' ⟨rfl, rfl⟩)
  go_ret
  exact ⟨rfl, rfl⟩

end Go.Proofs.YtbfolfacppbalaaDoor

namespace Go.Proofs.YtbfolfacppbalaaDoor
open Go.RowKit

/-- The library's table lies in its variable. -/
def TabIn (w : World) : Prop := ∀ j : Nat, j < 64 → w.cell? ⟨0, j, none⟩ = some (.int .u8 (Lib.deBruijn64tab.getD j 0 : Nat))

theorem TabIn.below {n₀ : Nat} {w w' : World} (h : TabIn w) (hb : Below n₀ w w') (h0 : 0 < n₀) : TabIn w' :=
  fun j hj => (hb.cell (p := ⟨0, j, none⟩) h0).trans (h j hj)

theorem tz_key (x a : Nat) (hx : x < 18446744073709551616) (hx0 : x ≠ 0) (hlow : x &&& (18446744073709551616 - x) = a) :
    IntKind.u64.wrap (bits .and .u64 (x : Int) (IntKind.u64.wrap (-(x : Int))) * 285870213051353865) / 288230376151711744 = ((a * 285870213051353865 % 18446744073709551616 / 288230376151711744 : Nat) : Int) := by
  have e1 : IntKind.u64.wrap (-(x : Int)) = ((18446744073709551616 - x : Nat) : Int) := by rw [IntKind.wrap_u64]; omega
  rw [e1, and_nat x _ hx (by omega), hlow, IntKind.wrap_u64]
  omega

theorem tz_core (x k idx : Nat) (w : World) (hx0 : ((x : Int) == 0) = false)
    (key : IntKind.u64.wrap (bits .and .u64 (x : Int) (IntKind.u64.wrap (-(x : Int))) * 285870213051353865) / 288230376151711744 = (idx : Int))
    (hi : idx < 64) (hk : k < 64) (hcell : w.cell? ⟨0, idx, none⟩ = some (.int .u8 k)) :
    Calls Tryd.prog 109 #[.int .u64 x] w fun e w' => e = .returned (.int .i64 k) ∧ w' = w := by
  go_enter Tryd.func109, Tryd.ntmps109
  go_wp2_with (simp only [key])
  go_ret
  exact ⟨rfl, rfl⟩

theorem tz (q m : Nat) (hx : 2 ^ q * (2 * m + 1) < 18446744073709551616) (hq : q < 64) (w : World) (hT : TabIn w) :
    Calls Tryd.prog 109 #[.int .u64 ((2 ^ q * (2 * m + 1) : Nat) : Int)] w fun e w' => e = .returned (.int .i64 q) ∧ w' = w := by
  have hlow := Lib.and_neg 64 q m hx
  obtain ⟨hi, htab⟩ := Lib.deBruijn64_at q hq
  have hp : 0 < 2 ^ q * (2 * m + 1) := Nat.mul_pos (Nat.two_pow_pos q) (by omega)
  generalize 2 ^ q * (2 * m + 1) = x at *
  have key := tz_key x (2 ^ q) hx (by omega) hlow
  have hc := hT _ hi
  rw [htab] at hc
  exact tz_core x q _ w (by simp; omega) key hi hq hc

end Go.Proofs.YtbfolfacppbalaaDoor
