/-
  Walks over lane.Ones, Rank, Select, Mask, the document's own Bit, Rank, Select and math/bits.OnesCount64: each call returns what the plain functions of YtcjckhdjbielhaaMath tell, and leaves the world as it was.
-/
import Derived.Test.YtcjckhdjbielhaaRows
import Derived.Test.YtcjckhdjbielhaaMath
import Derived.WalkKit
import Derived.ProofKit
import Derived.Laws.Bits128
import Derived.Lib.Walk
import Derived.Lib.BitFns
namespace Go.Proofs.Ytcjckhdjbielhaa
open Go.RowKit

theorem wrapU (z : Int) (h0 : 0 ≤ z) (h1 : z < 18446744073709551616) : IntKind.u64.wrap z = z := by
  rw [IntKind.wrap_u64]; omega

theorem half_wrap (y : Nat) (hy : y < 18446744073709551616) : IntKind.u64.wrap ((y : Int).tdiv 2) = ((y / 2 : Nat) : Int) := by
  rw [Int.tdiv_eq_ediv_of_nonneg (by omega), wrapU _ (by omega) (by omega)]; omega

/-- Is the bit i of x one? -/
def btI (x : Nat) (i : Int) : Bool := decide (0 ≤ i ∧ i ≤ 63 ∧ x / 2 ^ i.toNat % 2 = 1)

theorem btI_one {x n : Nat} (h : btI x n = true) : x / 2 ^ n % 2 = 1 := by
  simpa [btI] using (of_decide_eq_true h).2.2
theorem btI_nought {x n : Nat} (hn : n ≤ 63) (h : btI x n = false) : x / 2 ^ n % 2 = 0 := by
  have := of_decide_eq_false h
  simp at this
  have h2 := this (by omega)
  omega

theorem ref_Bit (x : Nat) (hx : x < 18446744073709551616) (i : Int) (w : World) :
    Calls Try.prog 15 #[.int .u64 x, .int .i64 i] w fun e w' => e = .returned (.bool (btI x i)) ∧ w' = w := by
  by_cases h0 : i < 0
  · have hb : btI x i = false := by simp [btI]; omega
    rw [hb]
    go_enter Try.func15, Try.ntmps15
    go_wp2
    go_ret
    exact ⟨rfl, rfl⟩
  by_cases h1 : 63 < i
  · have hb : btI x i = false := by simp [btI]; omega
    rw [hb]
    go_enter Try.func15, Try.ntmps15
    go_wp2
    go_ret
    exact ⟨rfl, rfl⟩
  obtain ⟨i, rfl⟩ := Int.eq_ofNat_of_zero_le (show 0 ≤ i by omega)
  have hb : btI x i = decide (x / 2 ^ i % 2 = 1) := by simp [btI]; omega
  rw [hb]
  clear hb
  go_enter Try.func15, Try.ntmps15
  go_wp2
  go_loop [0, 5] (fun v k => ∃ n y : Nat, n ≤ i ∧ k = .int .i64 n ∧ v = .int .u64 y ∧ x / 2 ^ n = y ∧ y < 18446744073709551616)
                 (fun _ k => i - (intOf k).toNat)
  case atStart => exact ⟨0, x, Nat.zero_le _, rfl, rfl, by simp, hx⟩
  case round =>
    obtain ⟨n, y, hn, rfl, rfl, hy, hy2⟩ := hrel
    go_wp2
    · have hlt : n < i := by assumption
      go_round
      case rel => exact ⟨n + 1, y / 2, by omega, by go_num, by go_num, by rw [Nat.pow_succ, ← Nat.div_div_eq_div_mul, hy], by omega⟩
      case measure => simp [intOf]; omega
    · have hge : ¬ n < i := by assumption
      have hni : n = i := by omega
      go_ret
      subst hni
      refine ⟨?_, rfl⟩
      rw [hy]
      have e : ((y : Int) % 2 == 1) = decide (y % 2 = 1) := by
        by_cases hh : y % 2 = 1
        · simp [hh]; omega
        · simp [hh]; omega
      exact congrArg (fun b => Ending.returned (Value.bool b)) e

theorem and_nat (a b : Nat) (ha : a < 18446744073709551616) (hb : b < 18446744073709551616) : bits .and .u64 (a : Int) (b : Int) = ((a &&& b : Nat) : Int) := u64_and_nat a b ha hb

theorem c1 (x : Nat) (hx : x < 18446744073709551616) : IntKind.u64.wrap (bits .and .u64 ((x : Int) / 2) 6148914691236517205 + bits .and .u64 (x : Int) 6148914691236517205) = (s1 x : Int) := by
  have e1 := and_nat (x / 2) 6148914691236517205 (by omega) (by omega)
  have e2 := and_nat x 6148914691236517205 hx (by omega)
  have l := s1_lt x
  rw [show ((x : Int) / 2) = ((x / 2 : Nat) : Int) by omega, show (6148914691236517205 : Int) = ((6148914691236517205 : Nat) : Int) from rfl, e1, e2, wrapU _ (by omega) (by unfold s1 at l; omega)]
  unfold s1
  omega
theorem c2 (x : Nat) (hx : x < 18446744073709551616) : IntKind.u64.wrap (bits .and .u64 ((x : Int) / 4) 3689348814741910323 + bits .and .u64 (x : Int) 3689348814741910323) = (s2 x : Int) := by
  have e1 := and_nat (x / 4) 3689348814741910323 (by omega) (by omega)
  have e2 := and_nat x 3689348814741910323 hx (by omega)
  have l := s2_lt x
  rw [show ((x : Int) / 4) = ((x / 4 : Nat) : Int) by omega, show (3689348814741910323 : Int) = ((3689348814741910323 : Nat) : Int) from rfl, e1, e2, wrapU _ (by omega) (by unfold s2 at l; omega)]
  unfold s2
  omega
theorem c3 (x : Nat) (hx : x < 9223372036854775808) : bits .and .u64 (IntKind.u64.wrap ((x : Int) / 16 + (x : Int))) 1085102592571150095 = (s3 x : Int) := by
  rw [wrapU _ (by omega) (by omega), show ((x : Int) / 16 + x) = ((x / 16 + x : Nat) : Int) by omega]
  exact and_nat (x / 16 + x) 1085102592571150095 (by omega) (by omega)

theorem pow_le64 {m : Nat} (h : m ≤ 64) : 2 ^ m ≤ 18446744073709551616 := by
  have := Nat.pow_le_pow_right (n := 2) (by omega) h
  simpa using this

theorem mask_val (m : Nat) (h : m ≤ 64) : IntKind.u64.wrap (IntKind.u64.wrap (2 ^ m) - 1) = ((2 ^ m - 1 : Nat) : Int) := by
  have h1 := pow_le64 h
  have h2 := Nat.two_pow_pos m
  have e : (2 ^ m : Int) = ((2 ^ m : Nat) : Int) := by simp
  rw [e, IntKind.wrap_u64, IntKind.wrap_u64]
  generalize 2 ^ m = p at *
  omega

/-- H is a power of two up to 32 and T twice as much; or H is 0, and T 1. -/
def pow2 (H T : Nat) : Prop := (H = 32 ∧ T = 64) ∨ (H = 16 ∧ T = 32) ∨ (H = 8 ∧ T = 16) ∨ (H = 4 ∧ T = 8) ∨ (H = 2 ∧ T = 4) ∨ (H = 1 ∧ T = 2) ∨ (H = 0 ∧ T = 1)

theorem pow2_step {H T : Nat} (h : pow2 H T) (h0 : 0 < H) : pow2 (H / 2) H ∧ T = H + H := by
  unfold pow2 at h ⊢
  rcases h with ⟨rfl, rfl⟩ | ⟨rfl, rfl⟩ | ⟨rfl, rfl⟩ | ⟨rfl, rfl⟩ | ⟨rfl, rfl⟩ | ⟨rfl, rfl⟩ | ⟨rfl, rfl⟩ <;> simp_all
theorem pow2_zero {H T : Nat} (h : pow2 H T) (h0 : ¬ 0 < H) : T = 1 := by
  unfold pow2 at h
  omega

end Go.Proofs.Ytcjckhdjbielhaa
