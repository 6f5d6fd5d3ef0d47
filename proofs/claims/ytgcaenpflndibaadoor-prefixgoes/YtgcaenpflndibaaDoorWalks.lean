/-
  Walks over lane.Ones, Rank, Select, Mask, the document's own Bit, Rank, Select and math/bits.OnesCount64: each call returns what the plain functions of YtgcaenpflndibaaDoorMath tell, and leaves the world as it was.
-/
import Derived.Test.YtgcaenpflndibaaDoorRows
import Derived.Test.YtgcaenpflndibaaDoorMath
import Derived.WalkKit
import Derived.ProofKit
import Derived.Laws.Bits128
import Derived.Lib.Walk
import Derived.Lib.BitFns
namespace Go.Proofs.YtgcaenpflndibaaDoor
open Go.RowKit

theorem wrapU (z : Int) (h0 : 0 ≤ z) (h1 : z < 18446744073709551616) : IntKind.u64.wrap z = z := by
  rw [IntKind.wrap_u64]; omega

theorem half_wrap (y : Nat) (hy : y < 18446744073709551616) : IntKind.u64.wrap ((y : Int).tdiv 2) = ((y / 2 : Nat) : Int) := by
  rw [Int.tdiv_eq_ediv_of_nonneg (by omega), wrapU _ (by omega) (by omega)]; omega

/-- Is the bit i of x one? -/
def btI (x : Nat) (i : Int) : Bool := decide (0 ≤ i ∧ i ≤ 63 ∧ x / 2 ^ i.toNat % 2 = 1)

theorem btI_one {x n : Nat} (h : btI x n = true) : x / 2 ^ n % 2 = 1 := by
  simpa [btI] using (of_decide_eq_true h).2.2
theorem btI_nought {x n : Nat} (hn : n ≤ 63) (h : btI x n = false) : x / 2 ^ n % 2 = 0 := by
  have := of_decide_eq_false h
  simp at this
  have h2 := this (by omega)
  omega

theorem and_nat (a b : Nat) (ha : a < 18446744073709551616) (hb : b < 18446744073709551616) : bits .and .u64 (a : Int) (b : Int) = ((a &&& b : Nat) : Int) := u64_and_nat a b ha hb

theorem c1 (x : Nat) (hx : x < 18446744073709551616) : IntKind.u64.wrap (bits .and .u64 ((x : Int) / 2) 6148914691236517205 + bits .and .u64 (x : Int) 6148914691236517205) = (s1 x : Int) := by
  have e1 := and_nat (x / 2) 6148914691236517205 (by omega) (by omega)
  have e2 := and_nat x 6148914691236517205 hx (by omega)
  have l := s1_lt x
  rw [show ((x : Int) / 2) = ((x / 2 : Nat) : Int) by omega, show (6148914691236517205 : Int) = ((6148914691236517205 : Nat) : Int) from rfl, e1, e2, wrapU _ (by omega) (by unfold s1 at l; omega)]
  unfold s1
  omega
theorem c2 (x : Nat) (hx : x < 18446744073709551616) : IntKind.u64.wrap (bits .and .u64 ((x : Int) / 4) 3689348814741910323 + bits .and .u64 (x : Int) 3689348814741910323) = (s2 x : Int) := by
  have e1 := and_nat (x / 4) 3689348814741910323 (by omega) (by omega)
  have e2 := and_nat x 3689348814741910323 hx (by omega)
  have l := s2_lt x
  rw [show ((x : Int) / 4) = ((x / 4 : Nat) : Int) by omega, show (3689348814741910323 : Int) = ((3689348814741910323 : Nat) : Int) from rfl, e1, e2, wrapU _ (by omega) (by unfold s2 at l; omega)]
  unfold s2
  omega
theorem c3 (x : Nat) (hx : x < 9223372036854775808) : bits .and .u64 (IntKind.u64.wrap ((x : Int) / 16 + (x : Int))) 1085102592571150095 = (s3 x : Int) := by
  rw [wrapU _ (by omega) (by omega), show ((x : Int) / 16 + x) = ((x / 16 + x : Nat) : Int) by omega]
  exact and_nat (x / 16 + x) 1085102592571150095 (by omega) (by omega)

theorem onesCount (x : Nat) (hx : x < 18446744073709551616) (w : World) :
    Calls Tryd.prog 65 #[.int .u64 x] w fun e w' => e = .returned (.int .i64 (rk x 64)) ∧ w' = w := by
  have f1 := c1 x hx
  have f2 := c2 (s1 x) (s1_lt x)
  have f3 := c3 (s2 (s1 x)) (s2_lt _)
  obtain ⟨y4, y5, y6, g1, g2, g3, g4, g5, g6, g7, g8⟩ := s_fold x hx
  generalize s3 (s2 (s1 x)) = y3 at *
  generalize s2 (s1 x) = y2 at *
  generalize s1 x = y1 at *
  generalize rk x 64 = r at *
  have f4 : IntKind.u64.wrap ((y3 : Int) + (y3 : Int) / 256) = (y4 : Int) := by rw [wrapU _ (by omega) (by omega)]; omega
  have f5 : IntKind.u64.wrap ((y4 : Int) + (y4 : Int) / 65536) = (y5 : Int) := by rw [wrapU _ (by omega) (by omega)]; omega
  have f6 : IntKind.u64.wrap ((y5 : Int) + (y5 : Int) / 4294967296) = (y6 : Int) := by rw [wrapU _ (by omega) (by omega)]; omega
  clear g1 g2 g3 g4 g5 g6
  go_enter Tryd.func65, Tryd.ntmps65
  go_wp2
  go_ret
  refine ⟨congrArg (fun z => Ending.returned (Value.int .i64 z)) ?_, rfl⟩
  rw [i64_and127]
  omega

theorem pow_le64 {m : Nat} (h : m ≤ 64) : 2 ^ m ≤ 18446744073709551616 := by
  have := Nat.pow_le_pow_right (n := 2) (by omega) h
  simpa using this

theorem mask_val (m : Nat) (h : m ≤ 64) : IntKind.u64.wrap (IntKind.u64.wrap (2 ^ m) - 1) = ((2 ^ m - 1 : Nat) : Int) := by
  have h1 := pow_le64 h
  have h2 := Nat.two_pow_pos m
  have e : (2 ^ m : Int) = ((2 ^ m : Nat) : Int) := by simp
  rw [e, IntKind.wrap_u64, IntKind.wrap_u64]
  generalize 2 ^ m = p at *
  omega

theorem mask (n : Int) (w : World) :
    Calls Tryd.prog 41 #[.int .i64 n] w fun e w' => e = .returned (.int .u64 (2 ^ (min 64 n.toNat) - 1 : Nat)) ∧ w' = w := by
  have e : (min (max n 0) 64).toNat = min 64 n.toNat := by omega
  go_enter Tryd.func41, Tryd.ntmps41
  go_wp2
  go_ret
  exact ⟨congrArg (fun z => Ending.returned (Value.int .u64 z)) (mask_val _ (by omega)), rfl⟩

theorem ones (x : Nat) (hx : x < 18446744073709551616) (w : World) :
    Calls Tryd.prog 54 #[.int .u64 x] w fun e w' => e = .returned (.int .i64 (rk x 64)) ∧ w' = w := by
  go_enter Tryd.func54, Tryd.ntmps54
  go_wp2_with (go_at_call 65; refine (onesCount x hx _).mono ?_; rintro e w' ⟨rfl, rfl⟩)
  go_ret
  exact ⟨rfl, rfl⟩

theorem lane_Rank (x : Nat) (hx : x < 18446744073709551616) (i : Int) (w : World) :
    Calls Tryd.prog 67 #[.int .u64 x, .int .i64 i] w fun e w' => e = .returned (.int .i64 (rk x (min 64 i.toNat))) ∧ w' = w := by
  have hm : 2 ^ min 64 i.toNat - 1 < 18446744073709551616 := by
    have := pow_le64 (m := min 64 i.toNat) (by omega)
    omega
  have e1 := and_nat x _ hx hm
  have e2 := rk_mask x (min 64 i.toNat) (by omega)
  have e3 : x &&& (2 ^ min 64 i.toNat - 1) < 18446744073709551616 := Nat.lt_of_le_of_lt Nat.and_le_left hx
  rw [← e2]
  clear e2
  have K := mask i
  generalize 2 ^ min 64 i.toNat - 1 = mm at *
  generalize x &&& mm = y at *
  go_enter Tryd.func67, Tryd.ntmps67
  go_wp2_with (first | (go_at_call 41; refine (K _).mono ?_; rintro e w' ⟨rfl, rfl⟩) | (go_at_call 54; refine (ones y e3 _).mono ?_; rintro e w' ⟨rfl, rfl⟩))
  go_ret
  exact ⟨rfl, rfl⟩
/-- H is a power of two up to 32 and T twice as much; or H is 0, and T 1. -/
def pow2 (H T : Nat) : Prop := (H = 32 ∧ T = 64) ∨ (H = 16 ∧ T = 32) ∨ (H = 8 ∧ T = 16) ∨ (H = 4 ∧ T = 8) ∨ (H = 2 ∧ T = 4) ∨ (H = 1 ∧ T = 2) ∨ (H = 0 ∧ T = 1)

theorem pow2_step {H T : Nat} (h : pow2 H T) (h0 : 0 < H) : pow2 (H / 2) H ∧ T = H + H := by
  unfold pow2 at h ⊢
  rcases h with ⟨rfl, rfl⟩ | ⟨rfl, rfl⟩ | ⟨rfl, rfl⟩ | ⟨rfl, rfl⟩ | ⟨rfl, rfl⟩ | ⟨rfl, rfl⟩ | ⟨rfl, rfl⟩ <;> simp_all
theorem pow2_zero {H T : Nat} (h : pow2 H T) (h0 : ¬ 0 < H) : T = 1 := by
  unfold pow2 at h
  omega

theorem lane_Select (x : Nat) (hx : x < 18446744073709551616) (k : Int) (w : World) :
    Calls Tryd.prog 62 #[.int .u64 x, .int .i64 k] w fun e w' => e = .returned (.int .i64 (sel x k 64)) ∧ w' = w := by
  by_cases h0 : k < 0
  · rw [sel_out x k (Or.inl h0)]
    go_enter Tryd.func62, Tryd.ntmps62
    go_wp2_with (go_at_call 54; refine (ones x hx _).mono ?_; rintro e w' ⟨rfl, rfl⟩)
    go_ret
    exact ⟨rfl, rfl⟩
  by_cases h1 : (rk x 64 : Int) ≤ k
  · rw [sel_out x k (Or.inr h1)]
    go_enter Tryd.func62, Tryd.ntmps62
    go_wp2_with (go_at_call 54; refine (ones x hx _).mono ?_; rintro e w' ⟨rfl, rfl⟩)
    go_ret
    exact ⟨rfl, rfl⟩
  obtain ⟨k, rfl⟩ := Int.eq_ofNat_of_zero_le (show 0 ≤ k by omega)
  have hN : ¬ rk x 64 ≤ k := by omega
  go_enter Tryd.func62, Tryd.ntmps62
  go_wp2_with (go_at_call 54; refine (ones x hx _).mono ?_; rintro e w' ⟨rfl, rfl⟩)
  have hK : k < rk x 64 := by omega
  go_loop [0, 1, 5, 6] (fun v kk at_ h => ∃ V K A H T : Nat, v = .int .u64 V ∧ kk = .int .i64 K ∧ at_ = .int .i64 A ∧ h = .int .i64 H ∧ V < 18446744073709551616 ∧ Hid (x / 2 ^ A = V) ∧ Hid (K < rk V T ∧ K + rk x A = k) ∧ A + T ≤ 64 ∧ K < 64 ∧ Hid (pow2 H T) ∧ H ≤ 32)
       (fun _ _ _ h => (intOf h).toNat)
  case atStart => exact ⟨x, k, 0, 32, 64, rfl, rfl, rfl, rfl, hx, (show x / 2 ^ 0 = x by simp), (show _ ∧ _ from ⟨hK, by simp [rk]⟩), by omega, by have := rk_le x 64; omega, (show pow2 32 64 by simp [pow2]), by omega⟩
  case round =>
    obtain ⟨V, K, A, H, T, rfl, rfl, rfl, rfl, hV, hA, hT, hAT, hK64, hP, hH⟩ := hrel
    clear h0 h1 hK hN
    go_wp2_with (go_at_call 67; refine (lane_Rank V hV _ _).mono ?_; rintro e w' ⟨rfl, rfl⟩)
    · have hH0 : 0 < H := by assumption
      have hB : rk V (min 64 H) ≤ K := by assumption
      have hA := hA.out
      have hT := hT.out
      have hP := hP.out
      have e1 : min 64 H = H := by omega
      obtain ⟨hP2, e2⟩ := pow2_step hP hH0
      have e3 : rk V T = rk V H + rk (V / 2 ^ H) H := by rw [e2, rk_add]
      have e4 : x / 2 ^ (A + H) = V / 2 ^ H := by rw [Nat.pow_add, ← Nat.div_div_eq_div_mul, hA]
      have e5 : rk x (A + H) = rk x A + rk V H := by rw [rk_add, hA]
      have e6 := Nat.div_le_self V (2 ^ H)
      rw [e1] at hB
      go_round
      case rel => exact ⟨V / 2 ^ H, K - rk V H, A + H, H / 2, H, by simp, by rw [e1]; go_num, by go_num, by go_num, by omega, e4, (show _ ∧ _ by omega), by omega, by omega, hP2, by omega⟩
      case measure => simp [intOf]; omega
    · have hH0 : 0 < H := by assumption
      have hB : ¬ rk V (min 64 H) ≤ K := by assumption
      have hT := hT.out
      have hP := hP.out
      have e1 : min 64 H = H := by omega
      obtain ⟨hP2, e2⟩ := pow2_step hP hH0
      rw [e1] at hB
      go_round
      case rel => exact ⟨V, K, A, H / 2, H, rfl, rfl, rfl, by go_num, hV, hA, (show _ ∧ _ by omega), by omega, by omega, hP2, by omega⟩
      case measure => simp [intOf]; omega
    · have hH0 : ¬ 0 < H := by assumption
      have hA := hA.out
      have hT := hT.out
      have hP := hP.out
      have e2 : T = 1 := pow2_zero hP hH0
      subst e2
      have e3 : rk V 1 = V % 2 := by simp [rk]
      have e4 := sel_of x k 64 A (by omega) (by rw [hA]; omega) (by omega)
      go_ret
      exact ⟨congrArg (fun z => Ending.returned (Value.int .i64 z)) e4.symm, rfl⟩

end Go.Proofs.YtgcaenpflndibaaDoor
