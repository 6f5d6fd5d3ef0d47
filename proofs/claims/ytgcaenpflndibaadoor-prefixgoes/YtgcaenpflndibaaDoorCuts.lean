/-
  Walks over lane.Cut, lane.Width and the document's own: each call returns what the plain functions of YtgcaenpflndibaaDoorMath tell.
-/
import Derived.Test.YtgcaenpflndibaaDoorWalks
import Derived.BigQuiet
import Derived.Deep.Light
namespace Go.Proofs.YtgcaenpflndibaaDoor
open Go.RowKit

theorem and_mask (y m : Nat) (hy : y < 18446744073709551616) (hm : m ≤ 64) : bits .and .u64 (y : Int) ((2 ^ m - 1 : Nat) : Int) = ((y % 2 ^ m : Nat) : Int) := by
  have h1 := pow_le64 hm
  have h2 := Nat.two_pow_pos m
  rw [and_nat y _ hy (by omega), Nat.and_two_pow_sub_one_eq_mod]

theorem lane_Cut (x : Nat) (hx : x < 18446744073709551616) (at_ n : Int) (w : World) :
    Calls Tryd.prog 51 #[.int .u64 x, .int .i64 at_, .int .i64 n] w fun e w' => e = .returned (.int .u64 (sh x at_ % 2 ^ (min 64 n.toNat) : Nat)) ∧ ∃ m, w' = w.drewN m := by
  by_cases h0 : at_ ≤ -64
  · rw [sh_out x at_ (Or.inl h0), Nat.zero_mod]
    go_enter Tryd.func51, Tryd.ntmps51
    go_wp2
    go_ret
    exact ⟨rfl, 0, rfl⟩
  by_cases h1 : 64 ≤ at_
  · rw [sh_out x at_ (Or.inr h1), Nat.zero_mod]
    go_enter Tryd.func51, Tryd.ntmps51
    go_wp2
    go_ret
    exact ⟨rfl, 0, rfl⟩
  by_cases h2 : at_ < 0
  · have K := mask n
    obtain ⟨s, hs⟩ := Int.eq_ofNat_of_zero_le (show 0 ≤ -at_ by omega)
    obtain rfl : at_ = -(s : Int) := by omega
    have e : sh x (-(s : Int)) % 2 ^ min 64 n.toNat = (x * 2 ^ s) % 18446744073709551616 % 2 ^ min 64 n.toNat := by
      unfold sh
      rw [if_neg (by omega), if_pos h2]
      simp only [Int.neg_neg, Int.toNat_natCast]
      exact (mod_mod_pow _ _ 64 (by omega)).symm
    rw [e]
    have hand := and_mask ((x * 2 ^ s) % 18446744073709551616) (min 64 n.toNat) (by omega) (by omega)
    generalize min 64 n.toNat = m at *
    generalize 2 ^ m - 1 = mm at *
    have hws : IntKind.i64.wrap (s : Int) = s := by rw [IntKind.wrap_i64]; omega
    have hs64 : s < 64 := by omega
    clear hs e
    go_enter Tryd.func51, Tryd.ntmps51
    go_wp2
    go_quiet ((go_at_call 41; refine Calls.quiet_of_same (K _)))
    go_wp2
    go_ret
    refine ⟨congrArg (fun z => Ending.returned (Value.int .u64 z)) ?_, _, rfl⟩
    rw [← hand, IntKind.wrap_u64]
    simp
  · have K := mask n
    obtain ⟨s, hs⟩ := Int.eq_ofNat_of_zero_le (show 0 ≤ at_ by omega)
    subst hs
    have e : sh x (s : Int) = x / 2 ^ s := by
      unfold sh
      rw [if_neg (by omega), if_neg h2]
      simp only [Int.toNat_natCast]
    rw [e]
    have hle := Nat.div_le_self x (2 ^ s)
    have hand := and_mask (x / 2 ^ s) (min 64 n.toNat) (by omega) (by omega)
    generalize min 64 n.toNat = m at *
    generalize 2 ^ m - 1 = mm at *
    go_enter Tryd.func51, Tryd.ntmps51
    go_wp2
    go_quiet ((go_at_call 41; refine Calls.quiet_of_same (K _)))
    go_wp2
    go_ret
    refine ⟨congrArg (fun z => Ending.returned (Value.int .u64 z)) ?_, _, rfl⟩
    rw [← hand]
    simp

theorem pow_lt64 {k : Nat} (h : k < 64) : 2 ^ (k + 1) ≤ 18446744073709551616 := pow_le64 (by omega)

theorem cut_one (y k O P : Nat) (hk : k < 64) (hO : O = y % 2 ^ k) (hP : P = 2 ^ k % 18446744073709551616) (hb : y / 2 ^ k % 2 = 1) : IntKind.u64.wrap ((O : Int) + (P : Int)) = ((y % 2 ^ (k + 1) : Nat) : Int) := by
  have h1 := pow_lt64 hk
  have h2 : 2 ^ (k + 1) = 2 * 2 ^ k := by rw [Nat.pow_succ, Nat.mul_comm]
  have h3 : y % 2 ^ k < 2 ^ k := Nat.mod_lt _ (Nat.two_pow_pos k)
  rw [mod_succ, hb, hO, hP]
  generalize 2 ^ k = p at *
  generalize y % p = q at *
  rw [IntKind.wrap_u64]
  omega
theorem cut_nought (y k : Nat) (hb : ¬ y / 2 ^ k % 2 = 1) : y % 2 ^ (k + 1) = y % 2 ^ k := by
  rw [mod_succ, show y / 2 ^ k % 2 = 0 by omega]
  omega
theorem cut_twice (k P : Nat) (hP : P = 2 ^ k % 18446744073709551616) : IntKind.u64.wrap ((P : Int) * 2) = ((2 ^ (k + 1) % 18446744073709551616 : Nat) : Int) := by
  have h2 : 2 ^ (k + 1) = 2 * 2 ^ k := by rw [Nat.pow_succ, Nat.mul_comm]
  rw [hP, h2]
  generalize 2 ^ k = p at *
  rw [IntKind.wrap_u64]
  omega
theorem mod_lt64 (y k : Nat) (h : k ≤ 64) : y % 2 ^ k < 18446744073709551616 := by
  have := Nat.mod_lt y (Nat.two_pow_pos k)
  have := pow_le64 h
  omega
theorem cut_end (y k m O : Nat) (hO : O = y % 2 ^ k) (h : m = k) : (O : Int) = (y : Int) % 2 ^ m := by
  subst h; rw [hO]; simp

set_option maxRecDepth 100000 in
theorem tab_size : Lib.len8tab.size = 256 := by decide +kernel
theorem tab_at (n : Nat) (h : n < Lib.len8tab.size) : (Lib.len8tab[n]'h).toNat = Lib.bitLen n := by
  have e := Lib.len8_eq ⟨n, by rw [tab_size] at h; exact h⟩
  unfold Lib.len8 at e
  simp only [Int.toNat_natCast] at e
  rw [getElem?_pos Lib.len8tab n h] at e
  exact Int.ofNat.inj e
theorem len_way_plain (x k y : Nat) (h1 : x < 18446744073709551616) (hk : k ≤ 56) (hle : 2 ^ k ≤ x ∨ k = 0) (hy : y = x / 2 ^ k) (hb : Lib.bitLen y ≤ 8) :
    wrap64 ((k : Int) + wrap64 (Lib.bitLen y : Int)) = (Lib.bitLen x : Int) := by
  have s : Lib.bitLen x = k + Lib.bitLen (x / 2 ^ k) := by
    rcases hle with hle | rfl
    · exact Lib.bitLen_shift k x hle h1
    · simp
  rw [s, ← hy]
  clear s hle
  generalize Lib.bitLen y = b at *
  unfold wrap64
  omega
/-- What each way through Len64 ends in. -/
theorem len_way (x y : Int) (k : Nat) (h1 : x ≤ 18446744073709551615) (h0 : 0 ≤ x) (hk : k ≤ 56) (hle : 2 ^ k ≤ x.toNat ∨ k = 0) (hy : y.toNat = x.toNat / 2 ^ k) (h : y.toNat < Lib.len8tab.size) :
    wrap64 ((k : Int) + wrap64 ((Lib.len8tab[y.toNat]'h).toNat : Int)) = (Lib.bitLen x.toNat : Int) := by
  have h2 : x.toNat < 18446744073709551616 := by clear h; omega
  have l := Lib.bitLen_le8 ⟨y.toNat, by rw [← tab_size]; exact h⟩
  rw [tab_at y.toNat h]
  exact len_way_plain x.toNat k y.toNat h2 hk hle hy l

set_option maxHeartbeats 4000000 in
set_option maxRecDepth 100000 in
theorem len64 (x : Int) (w : World) (h0 : 0 ≤ x) (h1 : x ≤ 18446744073709551615) :
    Calls Tryd.prog 50 #[.int .u64 x] w fun e w' => e = .returned (.int .i64 (Lib.bitLen x.toNat)) ∧ w' = w := by
  have hs : (Lib.len8tab.size : Int) = 256 := by rw [tab_size]; rfl
  go_enter Tryd.func50, Tryd.ntmps50
  go_wp2
  all_goals (go_ret; refine ⟨congrArg (fun z => Ending.returned (Value.int .i64 z)) ?_, rfl⟩; go_light)
  · exact len_way x (x / 4294967296 / 65536 / 256) 56 h1 h0 (by omega) (by omega) (by omega) _
  · exact len_way x (x / 4294967296 / 65536) 48 h1 h0 (by omega) (by omega) (by omega) _
  · exact len_way x (x / 4294967296 / 256) 40 h1 h0 (by omega) (by omega) (by omega) _
  · exact len_way x (x / 4294967296) 32 h1 h0 (by omega) (by omega) (by omega) _
  · exact len_way x (x / 65536 / 256) 24 h1 h0 (by omega) (by omega) (by omega) _
  · exact len_way x (x / 65536) 16 h1 h0 (by omega) (by omega) (by omega) _
  · exact len_way x (x / 256) 8 h1 h0 (by omega) (by omega) (by omega) _
  · have := len_way x x 0 h1 h0 (by omega) (by omega) (by simp) (by rw [tab_size]; omega)
    simpa using this

theorem lane_Width (x : Nat) (hx : x < 18446744073709551616) (w : World) :
    Calls Tryd.prog 31 #[.int .u64 x] w fun e w' => e = .returned (.int .i64 (Lib.bitLen x)) ∧ w' = w := by
  have K := fun w => len64 x w (by omega) (by omega)
  simp only [Int.toNat_natCast] at K
  go_enter Tryd.func31, Tryd.ntmps31
  go_wp2_with (go_at_call 50; refine (K _).mono ?_; rintro e w' ⟨rfl, rfl⟩)
  go_ret
  exact ⟨rfl, rfl⟩

end Go.Proofs.YtgcaenpflndibaaDoor
