/-
  Rows of bits, plainly: a row of n bits is a number V below 2^n; its words, what bits behind it make of it, cuts, the next one.
  Walks over lane.Ones, Rank, Select, Mask, the document's own Bit, Rank, Select and math/bits.OnesCount64: each call returns what the plain functions of YtbjgbigalfhnjaaGreatDoorMath tell, and leaves the world as it was.
  Walks over lane.Cut, lane.Width and the document's own: each call returns what the plain functions of YtbjgbigalfhnjaaGreatDoorMath tell.
-/
import Derived.Test.YtbjgbigalfhnjaaGreatDoorSet01
import Derived.Test.YtbjgbigalfhnjaaGreatDoorRows
import Derived.WalkKit
import Derived.ProofKit
import Derived.Laws.Bits128
import Derived.Lib.Walk
import Derived.Lib.BitFns
import Derived.BigQuiet
import Derived.Deep.Light
namespace Go.Proofs.YtbjgbigalfhnjaaGreatDoor

/-- The word i of V. -/
def wd (V i : Nat) : Nat := V / 2 ^ (64 * i) % 2 ^ 64
/-- How many words n bits have. -/
def nw (n : Nat) : Nat := (n + 63) / 64
/-- The bits of x behind the n bits of V. -/
def cat (V n x : Nat) : Nat := 2 ^ n * x + V

theorem wd_lt (V i : Nat) : wd V i < 18446744073709551616 := Nat.mod_lt _ (by decide)
theorem wd_bit (V i j : Nat) : (wd V i).testBit j = (decide (j < 64) && V.testBit (64 * i + j)) := by
  unfold wd
  rw [Nat.testBit_mod_two_pow, Nat.testBit_div_two_pow, Nat.add_comm]

theorem bit_above {V n j : Nat} (h : V < 2 ^ n) (hj : n ≤ j) : V.testBit j = false :=
  Nat.testBit_lt_two_pow (Nat.lt_of_lt_of_le h (Nat.pow_le_pow_right (by decide) hj))

theorem cat_bit {V n : Nat} (x : Nat) (h : V < 2 ^ n) (j : Nat) : (cat V n x).testBit j = if j < n then V.testBit j else x.testBit (j - n) :=
  Nat.testBit_two_pow_mul_add x h j

theorem cat_lt {V n x m : Nat} (h : V < 2 ^ n) (hx : x < 2 ^ m) : cat V n x < 2 ^ (n + m) := by
  have h1 : 2 ^ n * (x + 1) ≤ 2 ^ n * 2 ^ m := Nat.mul_le_mul_left _ hx
  rw [← Nat.pow_add, Nat.mul_succ] at h1
  unfold cat; omega

theorem wd_zero {V n : Nat} (h : V < 2 ^ n) (k : Nat) (hk : nw n ≤ k) : wd V k = 0 := by
  have : n ≤ 64 * k := by unfold nw at hk; omega
  unfold wd
  rw [Nat.div_eq_of_lt (Nat.lt_of_lt_of_le h (Nat.pow_le_pow_right (by decide) this))]

theorem wd_cat_low {V n : Nat} (x : Nat) (h : V < 2 ^ n) (i : Nat) (hi : i < n / 64) : wd (cat V n x) i = wd V i := by
  apply Nat.eq_of_testBit_eq
  intro j
  rw [wd_bit, wd_bit, cat_bit x h]
  by_cases hj : j < 64
  · simp [hj, show 64 * i + j < n by omega]
  · simp [hj]

theorem wd_cat_mid {V n : Nat} (x : Nat) (h : V < 2 ^ n) : wd (cat V n x) (n / 64) = wd V (n / 64) ||| (x * 2 ^ (n % 64) % 18446744073709551616) := by
  apply Nat.eq_of_testBit_eq
  intro j
  rw [wd_bit, Nat.testBit_or, wd_bit, cat_bit x h, show (18446744073709551616 : Nat) = 2 ^ 64 from rfl, Nat.testBit_mod_two_pow, ← Nat.shiftLeft_eq, Nat.testBit_shiftLeft]
  by_cases hj : j < 64
  · by_cases h2 : 64 * (n / 64) + j < n
    · have : ¬ n % 64 ≤ j := by omega
      simp [hj, h2, this]
    · have h3 : n % 64 ≤ j := by omega
      have h4 : 64 * (n / 64) + j - n = j - n % 64 := by omega
      simp [hj, h2, h3, h4, bit_above h (show n ≤ 64 * (n / 64) + j by omega)]
  · simp [hj]

theorem wd_cat_new {V n x : Nat} (h : V < 2 ^ n) (hx : x < 18446744073709551616) (_hu : n % 64 ≠ 0) : wd (cat V n x) (n / 64 + 1) = x / 2 ^ (64 - n % 64) := by
  apply Nat.eq_of_testBit_eq
  intro j
  rw [wd_bit, cat_bit x h, Nat.testBit_div_two_pow]
  have h2 : ¬ 64 * (n / 64 + 1) + j < n := by omega
  have h3 : 64 * (n / 64 + 1) + j - n = j + (64 - n % 64) := by omega
  by_cases hj : j < 64
  · simp [hj, h2, h3]
  · have : x < 2 ^ 64 := hx
    simp [hj, bit_above this (show 64 ≤ j + (64 - n % 64) by omega)]

theorem wd_cat_first {V n x : Nat} (h : V < 2 ^ n) (hx : x < 18446744073709551616) (hu : n % 64 = 0) : wd (cat V n x) (n / 64) = x := by
  apply Nat.eq_of_testBit_eq
  intro j
  rw [wd_bit, cat_bit x h]
  have h2 : ¬ 64 * (n / 64) + j < n := by omega
  have h3 : 64 * (n / 64) + j - n = j := by omega
  by_cases hj : j < 64
  · simp [hj, h2, h3]
  · have : x < 2 ^ 64 := hx
    simp [hj, bit_above this (show 64 ≤ j by omega)]

/-! ### Cuts -/
/-- The m bits of V from the bit at_ on. -/
def cutV (V : Nat) (at_ : Int) (m : Nat) : Nat := (if at_ < 0 then V * 2 ^ (-at_).toNat else V / 2 ^ at_.toNat) % 2 ^ m

theorem cutV_bit (V : Nat) (at_ : Int) (m j : Nat) : (cutV V at_ m).testBit j = (decide (j < m) && (decide (0 ≤ at_ + j) && V.testBit (at_ + j).toNat)) := by
  unfold cutV
  rw [Nat.testBit_mod_two_pow]
  congr 1
  by_cases h : at_ < 0
  · rw [if_pos h, ← Nat.shiftLeft_eq, Nat.testBit_shiftLeft]
    by_cases h2 : 0 ≤ at_ + j
    · have h3 : (-at_).toNat ≤ j := by omega
      have h4 : (at_ + j).toNat = j - (-at_).toNat := by omega
      simp [h2, h3, h4]
    · have h3 : ¬ (-at_).toNat ≤ j := by omega
      simp [h2, h3]
  · rw [if_neg h, Nat.testBit_div_two_pow]
    have h4 : (at_ + j).toNat = j + at_.toNat := by omega
    have h2 : 0 ≤ at_ + j := by omega
    simp [h2, h4]

/-- The word k, below 0 too. -/
def wdI (V : Nat) (k : Int) : Nat := if k < 0 then 0 else wd V k.toNat
theorem wdI_lt (V : Nat) (k : Int) : wdI V k < 18446744073709551616 := by
  unfold wdI; split
  · decide
  · exact wd_lt _ _
theorem wdI_bit (V : Nat) (k : Int) (j : Nat) : (wdI V k).testBit j = (decide (j < 64) && (decide (0 ≤ k) && V.testBit (64 * k + j).toNat)) := by
  unfold wdI
  by_cases h : k < 0
  · have : ¬ 0 ≤ k := by omega
    simp [h, this]
  · have h2 : 0 ≤ k := by omega
    have h3 : (64 * k + j).toNat = 64 * k.toNat + j := by omega
    simp [h, h2, wd_bit, h3]

theorem sh_up_bit (x : Nat) (u j : Nat) (hu : u < 64) (_hj : j < 64) : (sh x (u : Int)).testBit j = x.testBit (j + u) := by
  unfold sh
  rw [if_neg (by omega), if_neg (by omega), Nat.testBit_div_two_pow]
  simp
theorem sh_down_bit (x : Nat) (u j : Nat) (hu : u < 64) (hj : j < 64) : (sh x ((u : Int) - 64)).testBit j = (decide (64 - u ≤ j) && x.testBit (j + u - 64)) := by
  unfold sh
  by_cases h0 : u = 0
  · subst h0
    have : ¬ 64 ≤ j := by omega
    simp [this]
  · rw [if_neg (by omega), if_pos (by omega), ← Nat.shiftLeft_eq, Nat.testBit_shiftLeft]
    have h1 : (-((u : Int) - 64)).toNat = 64 - u := by omega
    have h2 : j - (64 - u) = j + u - 64 := by omega
    by_cases h3 : 64 - u ≤ j
    · simp [h1, h3, h2]
    · simp [h1, h3]

/-- A cut is put together of two neighbours. -/
theorem cut_two (V : Nat) (k : Int) (u m : Nat) (hu : u < 64) (hm : m ≤ 64) :
    (sh (wdI V k) (u : Int) % 2 ^ m) ||| (sh (wdI V (k + 1)) ((u : Int) - 64) % 2 ^ m) = cutV V (64 * k + u) m := by
  apply Nat.eq_of_testBit_eq
  intro j
  rw [Nat.testBit_or, Nat.testBit_mod_two_pow, Nat.testBit_mod_two_pow, cutV_bit]
  by_cases hj : j < m
  · rw [sh_up_bit _ _ _ hu (by omega), sh_down_bit _ _ _ hu (by omega), wdI_bit, wdI_bit]
    by_cases h : j + u < 64
    · have h2 : ¬ 64 - u ≤ j := by omega
      have h3 : (64 * k + ((j + u : Nat) : Int)) = 64 * k + u + j := by omega
      have h4 : decide (0 ≤ k) = decide (0 ≤ 64 * k + (u : Int) + j) := by simp; omega
      rw [h4, h3]
      simp [hj, h, h2]
    · have h2 : 64 - u ≤ j := by omega
      have h3 : j + u - 64 < 64 := by omega
      have h4 : decide (0 ≤ k + 1) = decide (0 ≤ 64 * k + (u : Int) + j) := by simp; omega
      have h5 : 64 * (k + 1) + ((j + u - 64 : Nat) : Int) = 64 * k + u + j := by omega
      rw [h4, h5]
      simp [hj, h, h2, h3]
  · simp [hj]

theorem cutV_word (V i : Nat) : cutV V ((64 * i : Nat) : Int) 64 = wd V i := by
  unfold cutV wd
  rw [if_neg (by omega)]
  rfl

theorem cutV_lt (V : Nat) (a : Int) (m : Nat) (h : m ≤ 64) : cutV V a m < 18446744073709551616 :=
  Nat.lt_of_lt_of_le (Nat.mod_lt _ (Nat.two_pow_pos m)) (Nat.pow_le_pow_right (by decide) h)

theorem cutV_zero (V : Nat) (a : Int) : cutV V a 0 = 0 := by simp [cutV, Nat.mod_one]

theorem bit_eq (x i : Nat) : x.testBit i = decide (x / 2 ^ i % 2 = 1) := Nat.testBit_eq_decide_div_mod_eq

theorem cutV_succ (V : Nat) (a : Int) (m : Nat) : cutV V a (m + 1) = cutV V a m + (if 0 ≤ a + m ∧ V.testBit (a + m).toNat = true then 2 ^ m else 0) := by
  have hb := cutV_bit V a (m + 1) m
  unfold cutV at hb ⊢
  generalize (if a < 0 then V * 2 ^ (-a).toNat else V / 2 ^ a.toNat) = y at hb ⊢
  rw [mod_succ]
  rw [Nat.testBit_mod_two_pow, bit_eq] at hb
  simp at hb
  by_cases h : 0 ≤ a + m ∧ V.testBit (a + m).toNat = true
  · rw [if_pos h]
    have : y / 2 ^ m % 2 = 1 := by
      rw [h.2] at hb
      simpa [h.1] using hb
    rw [this, Nat.mul_one]
  · rw [if_neg h]
    have : ¬ y / 2 ^ m % 2 = 1 := by
      intro h2
      apply h
      simp only [h2, decide_true] at hb
      have := hb.symm
      simp only [Bool.and_eq_true, decide_eq_true_eq] at this
      exact this
    have h0 : y / 2 ^ m % 2 = 0 := by omega
    rw [h0, Nat.mul_zero]

/-! ### Ones -/
theorem rk_wd (V k : Nat) : rk V (64 * (k + 1)) = rk V (64 * k) + rk (wd V k) 64 := by
  rw [Nat.mul_succ, rk_add]
  unfold wd
  rw [rk_mod _ _ _ (Nat.le_refl _)]
theorem rk_above {V n m : Nat} (h : V < 2 ^ n) (hm : n ≤ m) : rk V m = rk V n := by
  obtain ⟨d, rfl⟩ : ∃ d, m = n + d := ⟨m - n, by omega⟩
  rw [rk_add, Nat.div_eq_of_lt h, rk_zero, Nat.add_zero]
theorem rk_words {V n : Nat} (h : V < 2 ^ n) : rk V (64 * nw n) = rk V n := rk_above h (by unfold nw; omega)

/-! ### The next one -/
/-- The least number from f on, below n, of a bit that is one; -1: none. -/
def nextV (V : Nat) (f : Int) : Nat → Int
  | 0 => -1
  | n + 1 => if nextV V f n = -1 then (if f ≤ n ∧ V.testBit n = true then (n : Int) else -1) else nextV V f n

theorem nextV_none (V : Nat) (f : Int) (n : Nat) (h : ∀ p : Nat, p < n → f ≤ p → V.testBit p = false) : nextV V f n = -1 := by
  induction n with
  | zero => rfl
  | succ n ih =>
    rw [nextV, ih (fun p hp => h p (by omega)), if_pos rfl]
    by_cases hf : f ≤ n
    · simp [h n (by omega) hf]
    · simp [hf]
theorem nextV_of (V : Nat) (f : Int) (n p : Nat) (hp : p < n) (hf : f ≤ p) (h1 : V.testBit p = true) (h2 : ∀ q : Nat, q < p → f ≤ q → V.testBit q = false) : nextV V f n = p := by
  induction n with
  | zero => omega
  | succ n ih =>
    rw [nextV]
    by_cases hpn : p < n
    · rw [ih hpn, if_neg (by omega)]
    · obtain rfl : p = n := by omega
      rw [nextV_none V f p h2]
      simp [hf, h1]

/-! ### Words that came in -/
/-- The number whose words are f. -/
def ofW (f : Nat → Nat) : Nat → Nat
  | 0 => 0
  | k + 1 => cat (ofW f k) (64 * k) (f k)
theorem ofW_lt (f : Nat → Nat) (K : Nat) (hf : ∀ j, j < K → f j < 18446744073709551616) : ofW f K < 2 ^ (64 * K) := by
  induction K with
  | zero => simp [ofW]
  | succ k ih => exact cat_lt (m := 64) (ih fun j hj => hf j (by omega)) (hf k (by omega))
theorem ofW_wd (f : Nat → Nat) (K : Nat) (hf : ∀ j, j < K → f j < 18446744073709551616) (j : Nat) (hj : j < K) : wd (ofW f K) j = f j := by
  induction K with
  | zero => omega
  | succ k ih =>
    have hk := ofW_lt f k fun j hj => hf j (by omega)
    rw [ofW]
    by_cases h : j < k
    · rw [wd_cat_low _ hk _ (by omega)]
      exact ih (fun j hj => hf j (by omega)) h
    · obtain rfl : j = k := by omega
      have := wd_cat_first hk (hf j (by omega)) (by omega)
      rwa [show 64 * j / 64 = j by omega] at this

theorem bit_of_word (V i : Nat) : (wd V (i / 64)).testBit (i % 64) = V.testBit i := by
  rw [wd_bit, show 64 * (i / 64) + i % 64 = i by omega]
  simp [Nat.mod_lt]

/-- Numbers with the same words are the same. -/
theorem eq_of_words {V W n : Nat} (h : V < 2 ^ n) (h' : W < 2 ^ n) (he : ∀ j, j < nw n → wd V j = wd W j) : V = W := by
  apply Nat.eq_of_testBit_eq
  intro i
  by_cases hi : i < n
  · rw [← bit_of_word V, ← bit_of_word W, he (i / 64) (by unfold nw; omega)]
  · rw [bit_above h (by omega), bit_above h' (by omega)]

theorem mod_step (W i : Nat) : W % 2 ^ (i + 1) = cat (W % 2 ^ i) i (if W.testBit i then 1 else 0) := by
  unfold cat
  rw [mod_succ, bit_eq]
  rcases Nat.mod_two_eq_zero_or_one (W / 2 ^ i) with h | h <;> simp [h] <;> omega

end Go.Proofs.YtbjgbigalfhnjaaGreatDoor

namespace Go.Proofs.YtbjgbigalfhnjaaGreatDoor
open Go.RowKit

theorem wrapU (z : Int) (h0 : 0 ≤ z) (h1 : z < 18446744073709551616) : IntKind.u64.wrap z = z := by
  rw [IntKind.wrap_u64]; omega

theorem half_wrap (y : Nat) (hy : y < 18446744073709551616) : IntKind.u64.wrap ((y : Int).tdiv 2) = ((y / 2 : Nat) : Int) := by
  rw [Int.tdiv_eq_ediv_of_nonneg (by omega), wrapU _ (by omega) (by omega)]; omega

/-- Is the bit i of x one? -/
def btI (x : Nat) (i : Int) : Bool := decide (0 ≤ i ∧ i ≤ 63 ∧ x / 2 ^ i.toNat % 2 = 1)

theorem btI_one {x n : Nat} (h : btI x n = true) : x / 2 ^ n % 2 = 1 := by
  simpa [btI] using (of_decide_eq_true h).2.2
theorem btI_nought {x n : Nat} (hn : n ≤ 63) (h : btI x n = false) : x / 2 ^ n % 2 = 0 := by
  have := of_decide_eq_false h
  simp at this
  have h2 := this (by omega)
  omega

theorem ref_Bit (x : Nat) (hx : x < 18446744073709551616) (i : Int) (w : World) :
    Calls Tryz.prog 66 #[.int .u64 x, .int .i64 i] w fun e w' => e = .returned (.bool (btI x i)) ∧ w' = w := by
  by_cases h0 : i < 0
  · have hb : btI x i = false := by simp [btI]; omega
    rw [hb]
    go_enter Tryz.func66, Tryz.ntmps66
    go_wp2
    go_ret
    exact ⟨rfl, rfl⟩
  by_cases h1 : 63 < i
  · have hb : btI x i = false := by simp [btI]; omega
    rw [hb]
    go_enter Tryz.func66, Tryz.ntmps66
    go_wp2
    go_ret
    exact ⟨rfl, rfl⟩
  obtain ⟨i, rfl⟩ := Int.eq_ofNat_of_zero_le (show 0 ≤ i by omega)
  have hb : btI x i = decide (x / 2 ^ i % 2 = 1) := by simp [btI]; omega
  rw [hb]
  clear hb
  go_enter Tryz.func66, Tryz.ntmps66
  go_wp2
  go_loop [0, 5] (fun v k => ∃ n y : Nat, n ≤ i ∧ k = .int .i64 n ∧ v = .int .u64 y ∧ x / 2 ^ n = y ∧ y < 18446744073709551616)
                 (fun _ k => i - (intOf k).toNat)
  case atStart => exact ⟨0, x, Nat.zero_le _, rfl, rfl, by simp, hx⟩
  case round =>
    obtain ⟨n, y, hn, rfl, rfl, hy, hy2⟩ := hrel
    go_wp2
    · have hlt : n < i := by assumption
      go_round
      case rel => exact ⟨n + 1, y / 2, by omega, by go_num, by go_num, by rw [Nat.pow_succ, ← Nat.div_div_eq_div_mul, hy], by omega⟩
      case measure => simp [intOf]; omega
    · have hge : ¬ n < i := by assumption
      have hni : n = i := by omega
      go_ret
      subst hni
      refine ⟨?_, rfl⟩
      rw [hy]
      have e : ((y : Int) % 2 == 1) = decide (y % 2 = 1) := by
        by_cases hh : y % 2 = 1
        · simp [hh]; omega
        · simp [hh]; omega
      exact congrArg (fun b => Ending.returned (Value.bool b)) e

theorem and_nat (a b : Nat) (ha : a < 18446744073709551616) (hb : b < 18446744073709551616) : bits .and .u64 (a : Int) (b : Int) = ((a &&& b : Nat) : Int) := u64_and_nat a b ha hb

theorem c1 (x : Nat) (hx : x < 18446744073709551616) : IntKind.u64.wrap (bits .and .u64 ((x : Int) / 2) 6148914691236517205 + bits .and .u64 (x : Int) 6148914691236517205) = (s1 x : Int) := by
  have e1 := and_nat (x / 2) 6148914691236517205 (by omega) (by omega)
  have e2 := and_nat x 6148914691236517205 hx (by omega)
  have l := s1_lt x
  rw [show ((x : Int) / 2) = ((x / 2 : Nat) : Int) by omega, show (6148914691236517205 : Int) = ((6148914691236517205 : Nat) : Int) from rfl, e1, e2, wrapU _ (by omega) (by unfold s1 at l; omega)]
  unfold s1
  omega
theorem c2 (x : Nat) (hx : x < 18446744073709551616) : IntKind.u64.wrap (bits .and .u64 ((x : Int) / 4) 3689348814741910323 + bits .and .u64 (x : Int) 3689348814741910323) = (s2 x : Int) := by
  have e1 := and_nat (x / 4) 3689348814741910323 (by omega) (by omega)
  have e2 := and_nat x 3689348814741910323 hx (by omega)
  have l := s2_lt x
  rw [show ((x : Int) / 4) = ((x / 4 : Nat) : Int) by omega, show (3689348814741910323 : Int) = ((3689348814741910323 : Nat) : Int) from rfl, e1, e2, wrapU _ (by omega) (by unfold s2 at l; omega)]
  unfold s2
  omega
theorem c3 (x : Nat) (hx : x < 9223372036854775808) : bits .and .u64 (IntKind.u64.wrap ((x : Int) / 16 + (x : Int))) 1085102592571150095 = (s3 x : Int) := by
  rw [wrapU _ (by omega) (by omega), show ((x : Int) / 16 + x) = ((x / 16 + x : Nat) : Int) by omega]
  exact and_nat (x / 16 + x) 1085102592571150095 (by omega) (by omega)

theorem onesCount (x : Nat) (hx : x < 18446744073709551616) (w : World) :
    Calls Tryz.prog 104 #[.int .u64 x] w fun e w' => e = .returned (.int .i64 (rk x 64)) ∧ w' = w := by
  have f1 := c1 x hx
  have f2 := c2 (s1 x) (s1_lt x)
  have f3 := c3 (s2 (s1 x)) (s2_lt _)
  obtain ⟨y4, y5, y6, g1, g2, g3, g4, g5, g6, g7, g8⟩ := s_fold x hx
  generalize s3 (s2 (s1 x)) = y3 at *
  generalize s2 (s1 x) = y2 at *
  generalize s1 x = y1 at *
  generalize rk x 64 = r at *
  have f4 : IntKind.u64.wrap ((y3 : Int) + (y3 : Int) / 256) = (y4 : Int) := by rw [wrapU _ (by omega) (by omega)]; omega
  have f5 : IntKind.u64.wrap ((y4 : Int) + (y4 : Int) / 65536) = (y5 : Int) := by rw [wrapU _ (by omega) (by omega)]; omega
  have f6 : IntKind.u64.wrap ((y5 : Int) + (y5 : Int) / 4294967296) = (y6 : Int) := by rw [wrapU _ (by omega) (by omega)]; omega
  clear g1 g2 g3 g4 g5 g6
  go_enter Tryz.func104, Tryz.ntmps104
  go_wp2
  go_ret
  refine ⟨congrArg (fun z => Ending.returned (Value.int .i64 z)) ?_, rfl⟩
  rw [i64_and127]
  omega

theorem pow_le64 {m : Nat} (h : m ≤ 64) : 2 ^ m ≤ 18446744073709551616 := by
  have := Nat.pow_le_pow_right (n := 2) (by omega) h
  simpa using this

theorem mask_val (m : Nat) (h : m ≤ 64) : IntKind.u64.wrap (IntKind.u64.wrap (2 ^ m) - 1) = ((2 ^ m - 1 : Nat) : Int) := by
  have h1 := pow_le64 h
  have h2 := Nat.two_pow_pos m
  have e : (2 ^ m : Int) = ((2 ^ m : Nat) : Int) := by simp
  rw [e, IntKind.wrap_u64, IntKind.wrap_u64]
  generalize 2 ^ m = p at *
  omega

theorem mask (n : Int) (w : World) :
    Calls Tryz.prog 71 #[.int .i64 n] w fun e w' => e = .returned (.int .u64 (2 ^ (min 64 n.toNat) - 1 : Nat)) ∧ w' = w := by
  have e : (min (max n 0) 64).toNat = min 64 n.toNat := by omega
  go_enter Tryz.func71, Tryz.ntmps71
  go_wp2
  go_ret
  exact ⟨congrArg (fun z => Ending.returned (Value.int .u64 z)) (mask_val _ (by omega)), rfl⟩

theorem ones (x : Nat) (hx : x < 18446744073709551616) (w : World) :
    Calls Tryz.prog 92 #[.int .u64 x] w fun e w' => e = .returned (.int .i64 (rk x 64)) ∧ w' = w := by
  go_enter Tryz.func92, Tryz.ntmps92
  go_wp2_with (go_at_call 104; refine (onesCount x hx _).mono ?_; rintro e w' ⟨rfl, rfl⟩)
  go_ret
  exact ⟨rfl, rfl⟩

theorem lane_Rank (x : Nat) (hx : x < 18446744073709551616) (i : Int) (w : World) :
    Calls Tryz.prog 105 #[.int .u64 x, .int .i64 i] w fun e w' => e = .returned (.int .i64 (rk x (min 64 i.toNat))) ∧ w' = w := by
  have hm : 2 ^ min 64 i.toNat - 1 < 18446744073709551616 := by
    have := pow_le64 (m := min 64 i.toNat) (by omega)
    omega
  have e1 := and_nat x _ hx hm
  have e2 := rk_mask x (min 64 i.toNat) (by omega)
  have e3 : x &&& (2 ^ min 64 i.toNat - 1) < 18446744073709551616 := Nat.lt_of_le_of_lt Nat.and_le_left hx
  rw [← e2]
  clear e2
  have K := mask i
  generalize 2 ^ min 64 i.toNat - 1 = mm at *
  generalize x &&& mm = y at *
  go_enter Tryz.func105, Tryz.ntmps105
  go_wp2_with (first | (go_at_call 71; refine (K _).mono ?_; rintro e w' ⟨rfl, rfl⟩) | (go_at_call 92; refine (ones y e3 _).mono ?_; rintro e w' ⟨rfl, rfl⟩))
  go_ret
  exact ⟨rfl, rfl⟩
/-- H is a power of two up to 32 and T twice as much; or H is 0, and T 1. -/
def pow2 (H T : Nat) : Prop := (H = 32 ∧ T = 64) ∨ (H = 16 ∧ T = 32) ∨ (H = 8 ∧ T = 16) ∨ (H = 4 ∧ T = 8) ∨ (H = 2 ∧ T = 4) ∨ (H = 1 ∧ T = 2) ∨ (H = 0 ∧ T = 1)

theorem pow2_step {H T : Nat} (h : pow2 H T) (h0 : 0 < H) : pow2 (H / 2) H ∧ T = H + H := by
  unfold pow2 at h ⊢
  rcases h with ⟨rfl, rfl⟩ | ⟨rfl, rfl⟩ | ⟨rfl, rfl⟩ | ⟨rfl, rfl⟩ | ⟨rfl, rfl⟩ | ⟨rfl, rfl⟩ | ⟨rfl, rfl⟩ <;> simp_all
theorem pow2_zero {H T : Nat} (h : pow2 H T) (h0 : ¬ 0 < H) : T = 1 := by
  unfold pow2 at h
  omega

theorem lane_Select (x : Nat) (hx : x < 18446744073709551616) (k : Int) (w : World) :
    Calls Tryz.prog 101 #[.int .u64 x, .int .i64 k] w fun e w' => e = .returned (.int .i64 (sel x k 64)) ∧ w' = w := by
  by_cases h0 : k < 0
  · rw [sel_out x k (Or.inl h0)]
    go_enter Tryz.func101, Tryz.ntmps101
    go_wp2_with (go_at_call 92; refine (ones x hx _).mono ?_; rintro e w' ⟨rfl, rfl⟩)
    go_ret
    exact ⟨rfl, rfl⟩
  by_cases h1 : (rk x 64 : Int) ≤ k
  · rw [sel_out x k (Or.inr h1)]
    go_enter Tryz.func101, Tryz.ntmps101
    go_wp2_with (go_at_call 92; refine (ones x hx _).mono ?_; rintro e w' ⟨rfl, rfl⟩)
    go_ret
    exact ⟨rfl, rfl⟩
  obtain ⟨k, rfl⟩ := Int.eq_ofNat_of_zero_le (show 0 ≤ k by omega)
  have hN : ¬ rk x 64 ≤ k := by omega
  go_enter Tryz.func101, Tryz.ntmps101
  go_wp2_with (go_at_call 92; refine (ones x hx _).mono ?_; rintro e w' ⟨rfl, rfl⟩)
  have hK : k < rk x 64 := by omega
  go_loop [0, 1, 5, 6] (fun v kk at_ h => ∃ V K A H T : Nat, v = .int .u64 V ∧ kk = .int .i64 K ∧ at_ = .int .i64 A ∧ h = .int .i64 H ∧ V < 18446744073709551616 ∧ Hid (x / 2 ^ A = V) ∧ Hid (K < rk V T ∧ K + rk x A = k) ∧ A + T ≤ 64 ∧ K < 64 ∧ Hid (pow2 H T) ∧ H ≤ 32)
       (fun _ _ _ h => (intOf h).toNat)
  case atStart => exact ⟨x, k, 0, 32, 64, rfl, rfl, rfl, rfl, hx, (show x / 2 ^ 0 = x by simp), (show _ ∧ _ from ⟨hK, by simp [rk]⟩), by omega, by have := rk_le x 64; omega, (show pow2 32 64 by simp [pow2]), by omega⟩
  case round =>
    obtain ⟨V, K, A, H, T, rfl, rfl, rfl, rfl, hV, hA, hT, hAT, hK64, hP, hH⟩ := hrel
    clear h0 h1 hK hN
    go_wp2_with (go_at_call 105; refine (lane_Rank V hV _ _).mono ?_; rintro e w' ⟨rfl, rfl⟩)
    · have hH0 : 0 < H := by assumption
      have hB : rk V (min 64 H) ≤ K := by assumption
      have hA := hA.out
      have hT := hT.out
      have hP := hP.out
      have e1 : min 64 H = H := by omega
      obtain ⟨hP2, e2⟩ := pow2_step hP hH0
      have e3 : rk V T = rk V H + rk (V / 2 ^ H) H := by rw [e2, rk_add]
      have e4 : x / 2 ^ (A + H) = V / 2 ^ H := by rw [Nat.pow_add, ← Nat.div_div_eq_div_mul, hA]
      have e5 : rk x (A + H) = rk x A + rk V H := by rw [rk_add, hA]
      have e6 := Nat.div_le_self V (2 ^ H)
      rw [e1] at hB
      go_round
      case rel => exact ⟨V / 2 ^ H, K - rk V H, A + H, H / 2, H, by simp, by rw [e1]; go_num, by go_num, by go_num, by omega, e4, (show _ ∧ _ by omega), by omega, by omega, hP2, by omega⟩
      case measure => simp [intOf]; omega
    · have hH0 : 0 < H := by assumption
      have hB : ¬ rk V (min 64 H) ≤ K := by assumption
      have hT := hT.out
      have hP := hP.out
      have e1 : min 64 H = H := by omega
      obtain ⟨hP2, e2⟩ := pow2_step hP hH0
      rw [e1] at hB
      go_round
      case rel => exact ⟨V, K, A, H / 2, H, rfl, rfl, rfl, by go_num, hV, hA, (show _ ∧ _ by omega), by omega, by omega, hP2, by omega⟩
      case measure => simp [intOf]; omega
    · have hH0 : ¬ 0 < H := by assumption
      have hA := hA.out
      have hT := hT.out
      have hP := hP.out
      have e2 : T = 1 := pow2_zero hP hH0
      subst e2
      have e3 : rk V 1 = V % 2 := by simp [rk]
      have e4 := sel_of x k 64 A (by omega) (by rw [hA]; omega) (by omega)
      go_ret
      exact ⟨congrArg (fun z => Ending.returned (Value.int .i64 z)) e4.symm, rfl⟩

end Go.Proofs.YtbjgbigalfhnjaaGreatDoor

namespace Go.Proofs.YtbjgbigalfhnjaaGreatDoor
open Go.RowKit

theorem and_mask (y m : Nat) (hy : y < 18446744073709551616) (hm : m ≤ 64) : bits .and .u64 (y : Int) ((2 ^ m - 1 : Nat) : Int) = ((y % 2 ^ m : Nat) : Int) := by
  have h1 := pow_le64 hm
  have h2 := Nat.two_pow_pos m
  rw [and_nat y _ hy (by omega), Nat.and_two_pow_sub_one_eq_mod]

theorem lane_Cut (x : Nat) (hx : x < 18446744073709551616) (at_ n : Int) (w : World) :
    Calls Tryz.prog 68 #[.int .u64 x, .int .i64 at_, .int .i64 n] w fun e w' => e = .returned (.int .u64 (sh x at_ % 2 ^ (min 64 n.toNat) : Nat)) ∧ ∃ m, w' = w.drewN m := by
  by_cases h0 : at_ ≤ -64
  · rw [sh_out x at_ (Or.inl h0), Nat.zero_mod]
    go_enter Tryz.func68, Tryz.ntmps68
    go_wp2
    go_ret
    exact ⟨rfl, 0, rfl⟩
  by_cases h1 : 64 ≤ at_
  · rw [sh_out x at_ (Or.inr h1), Nat.zero_mod]
    go_enter Tryz.func68, Tryz.ntmps68
    go_wp2
    go_ret
    exact ⟨rfl, 0, rfl⟩
  by_cases h2 : at_ < 0
  · have K := mask n
    obtain ⟨s, hs⟩ := Int.eq_ofNat_of_zero_le (show 0 ≤ -at_ by omega)
    obtain rfl : at_ = -(s : Int) := by omega
    have e : sh x (-(s : Int)) % 2 ^ min 64 n.toNat = (x * 2 ^ s) % 18446744073709551616 % 2 ^ min 64 n.toNat := by
      unfold sh
      rw [if_neg (by omega), if_pos h2]
      simp only [Int.neg_neg, Int.toNat_natCast]
      exact (mod_mod_pow _ _ 64 (by omega)).symm
    rw [e]
    have hand := and_mask ((x * 2 ^ s) % 18446744073709551616) (min 64 n.toNat) (by omega) (by omega)
    generalize min 64 n.toNat = m at *
    generalize 2 ^ m - 1 = mm at *
    have hws : IntKind.i64.wrap (s : Int) = s := by rw [IntKind.wrap_i64]; omega
    have hs64 : s < 64 := by omega
    clear hs e
    go_enter Tryz.func68, Tryz.ntmps68
    go_wp2
    go_quiet ((go_at_call 71; refine Calls.quiet_of_same (K _)))
    go_wp2
    go_ret
    refine ⟨congrArg (fun z => Ending.returned (Value.int .u64 z)) ?_, _, rfl⟩
    rw [← hand, IntKind.wrap_u64]
    simp
  · have K := mask n
    obtain ⟨s, hs⟩ := Int.eq_ofNat_of_zero_le (show 0 ≤ at_ by omega)
    subst hs
    have e : sh x (s : Int) = x / 2 ^ s := by
      unfold sh
      rw [if_neg (by omega), if_neg h2]
      simp only [Int.toNat_natCast]
    rw [e]
    have hle := Nat.div_le_self x (2 ^ s)
    have hand := and_mask (x / 2 ^ s) (min 64 n.toNat) (by omega) (by omega)
    generalize min 64 n.toNat = m at *
    generalize 2 ^ m - 1 = mm at *
    go_enter Tryz.func68, Tryz.ntmps68
    go_wp2
    go_quiet ((go_at_call 71; refine Calls.quiet_of_same (K _)))
    go_wp2
    go_ret
    refine ⟨congrArg (fun z => Ending.returned (Value.int .u64 z)) ?_, _, rfl⟩
    rw [← hand]
    simp

theorem pow_lt64 {k : Nat} (h : k < 64) : 2 ^ (k + 1) ≤ 18446744073709551616 := pow_le64 (by omega)

theorem cut_one (y k O P : Nat) (hk : k < 64) (hO : O = y % 2 ^ k) (hP : P = 2 ^ k % 18446744073709551616) (hb : y / 2 ^ k % 2 = 1) : IntKind.u64.wrap ((O : Int) + (P : Int)) = ((y % 2 ^ (k + 1) : Nat) : Int) := by
  have h1 := pow_lt64 hk
  have h2 : 2 ^ (k + 1) = 2 * 2 ^ k := by rw [Nat.pow_succ, Nat.mul_comm]
  have h3 : y % 2 ^ k < 2 ^ k := Nat.mod_lt _ (Nat.two_pow_pos k)
  rw [mod_succ, hb, hO, hP]
  generalize 2 ^ k = p at *
  generalize y % p = q at *
  rw [IntKind.wrap_u64]
  omega
theorem cut_nought (y k : Nat) (hb : ¬ y / 2 ^ k % 2 = 1) : y % 2 ^ (k + 1) = y % 2 ^ k := by
  rw [mod_succ, show y / 2 ^ k % 2 = 0 by omega]
  omega
theorem cut_twice (k P : Nat) (hP : P = 2 ^ k % 18446744073709551616) : IntKind.u64.wrap ((P : Int) * 2) = ((2 ^ (k + 1) % 18446744073709551616 : Nat) : Int) := by
  have h2 : 2 ^ (k + 1) = 2 * 2 ^ k := by rw [Nat.pow_succ, Nat.mul_comm]
  rw [hP, h2]
  generalize 2 ^ k = p at *
  rw [IntKind.wrap_u64]
  omega
theorem mod_lt64 (y k : Nat) (h : k ≤ 64) : y % 2 ^ k < 18446744073709551616 := by
  have := Nat.mod_lt y (Nat.two_pow_pos k)
  have := pow_le64 h
  omega
theorem cut_end (y k m O : Nat) (hO : O = y % 2 ^ k) (h : m = k) : (O : Int) = (y : Int) % 2 ^ m := by
  subst h; rw [hO]; simp

set_option maxRecDepth 100000 in
theorem tab_size : Lib.len8tab.size = 256 := by decide +kernel
theorem tab_at (n : Nat) (h : n < Lib.len8tab.size) : (Lib.len8tab[n]'h).toNat = Lib.bitLen n := by
  have e := Lib.len8_eq ⟨n, by rw [tab_size] at h; exact h⟩
  unfold Lib.len8 at e
  simp only [Int.toNat_natCast] at e
  rw [getElem?_pos Lib.len8tab n h] at e
  exact Int.ofNat.inj e
theorem len_way_plain (x k y : Nat) (h1 : x < 18446744073709551616) (hk : k ≤ 56) (hle : 2 ^ k ≤ x ∨ k = 0) (hy : y = x / 2 ^ k) (hb : Lib.bitLen y ≤ 8) :
    wrap64 ((k : Int) + wrap64 (Lib.bitLen y : Int)) = (Lib.bitLen x : Int) := by
  have s : Lib.bitLen x = k + Lib.bitLen (x / 2 ^ k) := by
    rcases hle with hle | rfl
    · exact Lib.bitLen_shift k x hle h1
    · simp
  rw [s, ← hy]
  clear s hle
  generalize Lib.bitLen y = b at *
  unfold wrap64
  omega
/-- What each way through Len64 ends in. -/
theorem len_way (x y : Int) (k : Nat) (h1 : x ≤ 18446744073709551615) (h0 : 0 ≤ x) (hk : k ≤ 56) (hle : 2 ^ k ≤ x.toNat ∨ k = 0) (hy : y.toNat = x.toNat / 2 ^ k) (h : y.toNat < Lib.len8tab.size) :
    wrap64 ((k : Int) + wrap64 ((Lib.len8tab[y.toNat]'h).toNat : Int)) = (Lib.bitLen x.toNat : Int) := by
  have h2 : x.toNat < 18446744073709551616 := by clear h; omega
  have l := Lib.bitLen_le8 ⟨y.toNat, by rw [← tab_size]; exact h⟩
  rw [tab_at y.toNat h]
  exact len_way_plain x.toNat k y.toNat h2 hk hle hy l

set_option maxHeartbeats 4000000 in
set_option maxRecDepth 100000 in
theorem len64 (x : Int) (w : World) (h0 : 0 ≤ x) (h1 : x ≤ 18446744073709551615) :
    Calls Tryz.prog 90 #[.int .u64 x] w fun e w' => e = .returned (.int .i64 (Lib.bitLen x.toNat)) ∧ w' = w := by
  have hs : (Lib.len8tab.size : Int) = 256 := by rw [tab_size]; rfl
  go_enter Tryz.func90, Tryz.ntmps90
  go_wp2
  all_goals (go_ret; refine ⟨congrArg (fun z => Ending.returned (Value.int .i64 z)) ?_, rfl⟩; go_light)
  · exact len_way x (x / 4294967296 / 65536 / 256) 56 h1 h0 (by omega) (by omega) (by omega) _
  · exact len_way x (x / 4294967296 / 65536) 48 h1 h0 (by omega) (by omega) (by omega) _
  · exact len_way x (x / 4294967296 / 256) 40 h1 h0 (by omega) (by omega) (by omega) _
  · exact len_way x (x / 4294967296) 32 h1 h0 (by omega) (by omega) (by omega) _
  · exact len_way x (x / 65536 / 256) 24 h1 h0 (by omega) (by omega) (by omega) _
  · exact len_way x (x / 65536) 16 h1 h0 (by omega) (by omega) (by omega) _
  · exact len_way x (x / 256) 8 h1 h0 (by omega) (by omega) (by omega) _
  · have := len_way x x 0 h1 h0 (by omega) (by omega) (by simp) (by rw [tab_size]; omega)
    simpa using this

theorem lane_Width (x : Nat) (hx : x < 18446744073709551616) (w : World) :
    Calls Tryz.prog 74 #[.int .u64 x] w fun e w' => e = .returned (.int .i64 (Lib.bitLen x)) ∧ w' = w := by
  have K := fun w => len64 x w (by omega) (by omega)
  simp only [Int.toNat_natCast] at K
  go_enter Tryz.func74, Tryz.ntmps74
  go_wp2_with (go_at_call 90; refine (K _).mono ?_; rintro e w' ⟨rfl, rfl⟩)
  go_ret
  exact ⟨rfl, rfl⟩

end Go.Proofs.YtbjgbigalfhnjaaGreatDoor
