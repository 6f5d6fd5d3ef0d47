/-
  seldir's From: plain facts on the ones of a row from any one on, word by word.
-/
import Derived.Test.YtbjgbigalfhnjaaGreatDoorSelRef
import Derived.Test.YtbjgbigalfhnjaaGreatDoorSet18
namespace Go.Proofs.YtbjgbigalfhnjaaGreatDoor
open Go.RowKit

/-- The word x without its lowest m bits. -/
def cutLow (x m : Nat) : Nat := x / 2 ^ m * 2 ^ m
theorem cutLow_le (x m : Nat) : cutLow x m ≤ x := Nat.div_mul_le_self _ _
theorem cutLow_rk (x m i : Nat) : rk (cutLow x m) (m + i) + rk x m = rk x (m + i) := by
  have h1 : rk (cutLow x m) m = 0 := by unfold cutLow; rw [Nat.mul_comm]; exact rk_multiple m _
  have h2 : cutLow x m / 2 ^ m = x / 2 ^ m := Nat.mul_div_cancel _ (Nat.two_pow_pos m)
  rw [rk_add, rk_add x, h1, h2]; omega
theorem cutLow_low (x m p : Nat) (hp : p < m) : cutLow x m / 2 ^ p % 2 = 0 := by
  unfold cutLow
  obtain ⟨e, rfl⟩ : ∃ e, m = p + 1 + e := ⟨m - p - 1, by omega⟩
  rw [show x / 2 ^ (p + 1 + e) * 2 ^ (p + 1 + e) = 2 ^ p * (2 * (x / 2 ^ (p + 1 + e) * 2 ^ e)) by
    rw [show (2 : Nat) ^ (p + 1 + e) = 2 ^ p * 2 * 2 ^ e by rw [Nat.pow_add, Nat.pow_succ]]
    generalize x / (2 ^ p * 2 * 2 ^ e) = z
    rw [Nat.mul_assoc, Nat.mul_left_comm z, Nat.mul_left_comm z 2], Nat.mul_div_cancel_left _ (Nat.two_pow_pos p), Nat.mul_mod_right]
theorem cutLow_high (x m p : Nat) (hp : m ≤ p) : cutLow x m / 2 ^ p % 2 = x / 2 ^ p % 2 := by
  obtain ⟨e, rfl⟩ : ∃ e, p = m + e := ⟨p - m, by omega⟩
  have h2 : cutLow x m / 2 ^ m = x / 2 ^ m := Nat.mul_div_cancel _ (Nat.two_pow_pos m)
  rw [Nat.pow_add, ← Nat.div_div_eq_div_mul, ← Nat.div_div_eq_div_mul, h2]
theorem cutLow_zero (x : Nat) : cutLow x 0 = x := by simp [cutLow]

theorem cutLow_bit (x m p : Nat) : (cutLow x m).testBit p = (decide (m ≤ p) && x.testBit p) := by
  by_cases h : m ≤ p
  · rw [bit_eq, bit_eq, cutLow_high x m p h]; simp [h]
  · rw [bit_eq, cutLow_low x m p (by omega)]; simp [h]
theorem and_cut (x m : Nat) (hx : x < 18446744073709551616) (hm : m ≤ 64) : x &&& (18446744073709551615 - (2 ^ m - 1)) = cutLow x m := by
  have hp : 2 ^ m ≤ 2 ^ 64 := Nat.pow_le_pow_right (by decide) hm
  have h0 := Nat.two_pow_pos m
  rw [show 18446744073709551615 - (2 ^ m - 1) = 2 ^ 64 - (2 ^ m - 1 + 1) by omega]
  apply Nat.eq_of_testBit_eq
  intro p
  rw [Nat.testBit_and, Nat.testBit_two_pow_sub_succ (by omega), Nat.testBit_two_pow_sub_one, cutLow_bit]
  by_cases h64 : p < 64
  · by_cases h : m ≤ p
    · simp [h64, h, Nat.not_lt.2 h]
    · simp [h64, h, Nat.not_le.1 h]
  · have : x.testBit p = false := bit_above (n := 64) hx (by omega)
    simp [this]
theorem andNot_cut (x m : Nat) (hx : x < 18446744073709551616) (hm : m ≤ 64) : bits .andNot .u64 (x : Int) ((2 ^ m - 1 : Nat) : Int) = ((cutLow x m : Nat) : Int) := by
  have hp := pow_le64 hm
  rw [u64_andNot_nat x _ hx (by omega), and_cut x m hx hm]

theorem part_rk (V q m : Nat) (hm : m ≤ 64) : rk V (64 * q + m) + rk (cutLow (wd V q) m) 64 = rk V (64 * (q + 1)) := by
  have h := cutLow_rk (wd V q) m (64 - m)
  rw [show m + (64 - m) = 64 by omega] at h
  have h2 := rk_low V q m hm
  have h3 := rk_low V q 64 (Nat.le_refl _)
  rw [show 64 * q + 64 = 64 * (q + 1) by omega] at h3
  omega

theorem part_sel (V n q m j : Nat) (hV : V < 2 ^ n) (hm : m ≤ 64) (hj : j < rk (cutLow (wd V q) m) 64) : (q : Int) * 64 + sel (cutLow (wd V q) m) j 64 = ((pl V n (rk V (64 * q + m) + j) : Nat) : Int) ∧ pl V n (rk V (64 * q + m) + j) < 64 * q + 64 := by
  obtain ⟨p, hp, h1, h2⟩ := sel_in _ 64 j hj
  rw [sel_of _ j 64 p hp h1 (by omega)]
  have hmp : m ≤ p := by
    rcases Nat.lt_or_ge p m with h | h
    · rw [cutLow_low _ _ _ h] at h1; omega
    · exact h
  rw [cutLow_high _ _ _ hmp] at h1
  have hb := (wd_low V q p hp).1 h1
  have hr := cutLow_rk (wd V q) m (p - m)
  rw [show m + (p - m) = p by omega] at hr
  have e1 := rk_low V q p (by omega)
  have e2 := rk_low V q m hm
  have hpn : 64 * q + p < n := by
    rcases Nat.lt_or_ge (64 * q + p) n with h | h
    · exact h
    · have := bit_above hV h; rw [bit_one.1 hb] at this; cases this
  have := sel_of V ((rk V (64 * q + m) + j : Nat) : Int) n (64 * q + p) hpn hb (by omega)
  unfold pl
  rw [this]
  omega

/-- The ones from the k-th one on, c of them. -/
def goL (V n k c : Nat) : List (Int × Int) := (List.range c).map fun (j : Nat) => (((k + j : Nat) : Int), ((pl V n (k + j) : Nat) : Int))
theorem goL_len (V n k c : Nat) : (goL V n k c).length = c := by simp [goL]
theorem goL_succ (V n k c : Nat) : goL V n k (c + 1) = goL V n k c ++ [(((k + c : Nat) : Int), ((pl V n (k + c) : Nat) : Int))] := by simp [goL, List.range_succ]

/-- What From hands on of what Pairs hands over. -/
def trP (k q : Nat) (pre : List (Int × Int)) : List (Int × Int) := pre.mapIdx fun i x => (((k + i : Nat) : Int), wrap64 ((q : Int) * 64 + x.2))
theorem trP_len (k q : Nat) (pre : List (Int × Int)) : (trP k q pre).length = pre.length := by simp [trP]
theorem trP_snoc (k q : Nat) (pre : List (Int × Int)) (x : Int × Int) : trP k q (pre ++ [x]) = trP k q pre ++ [(((k + pre.length : Nat) : Int), wrap64 ((q : Int) * 64 + x.2))] := by simp [trP, List.mapIdx_append]
theorem trP_all (V n q m k c0 c : Nat) (hV : V < 2 ^ n) (hm : m ≤ 64) (hq : q ≤ 17179869185) (hk : k + c0 = rk V (64 * q + m)) (hc : c ≤ rk (cutLow (wd V q) m) 64) : goL V n k c0 ++ trP (k + c0) q (allP (cutLow (wd V q) m) c) = goL V n k (c0 + c) := by
  induction c with
  | zero => simp [trP, allP]
  | succ c ih =>
    have hs := part_sel V n q m c hV hm (by omega)
    rw [allP_succ, trP_snoc, ← List.append_assoc, ih (by omega), ← Nat.add_assoc, goL_succ, allP_len, hs.1, hk.symm]
    have hw : wrap64 ((pl V n (k + c0 + c) : Nat) : Int) = ((pl V n (k + c0 + c) : Nat) : Int) := by
      unfold wrap64; rw [← hk] at hs; omega
    rw [hw, Nat.add_assoc]

end Go.Proofs.YtbjgbigalfhnjaaGreatDoor
