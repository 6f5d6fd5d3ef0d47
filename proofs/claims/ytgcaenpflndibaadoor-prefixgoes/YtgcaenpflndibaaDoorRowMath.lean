/-
  Rows of bits, plainly: a row of n bits is a number V below 2^n; its words, what bits behind it make of it, cuts, the next one.
-/
import Derived.Test.YtgcaenpflndibaaDoorMath
namespace Go.Proofs.YtgcaenpflndibaaDoor

/-- The word i of V. -/
def wd (V i : Nat) : Nat := V / 2 ^ (64 * i) % 2 ^ 64
/-- How many words n bits have. -/
def nw (n : Nat) : Nat := (n + 63) / 64
/-- The bits of x behind the n bits of V. -/
def cat (V n x : Nat) : Nat := 2 ^ n * x + V

theorem wd_lt (V i : Nat) : wd V i < 18446744073709551616 := Nat.mod_lt _ (by decide)
theorem wd_bit (V i j : Nat) : (wd V i).testBit j = (decide (j < 64) && V.testBit (64 * i + j)) := by
  unfold wd
  rw [Nat.testBit_mod_two_pow, Nat.testBit_div_two_pow, Nat.add_comm]

theorem bit_above {V n j : Nat} (h : V < 2 ^ n) (hj : n ≤ j) : V.testBit j = false :=
  Nat.testBit_lt_two_pow (Nat.lt_of_lt_of_le h (Nat.pow_le_pow_right (by decide) hj))

theorem cat_bit {V n : Nat} (x : Nat) (h : V < 2 ^ n) (j : Nat) : (cat V n x).testBit j = if j < n then V.testBit j else x.testBit (j - n) :=
  Nat.testBit_two_pow_mul_add x h j

theorem cat_lt {V n x m : Nat} (h : V < 2 ^ n) (hx : x < 2 ^ m) : cat V n x < 2 ^ (n + m) := by
  have h1 : 2 ^ n * (x + 1) ≤ 2 ^ n * 2 ^ m := Nat.mul_le_mul_left _ hx
  rw [← Nat.pow_add, Nat.mul_succ] at h1
  unfold cat; omega

theorem wd_zero {V n : Nat} (h : V < 2 ^ n) (k : Nat) (hk : nw n ≤ k) : wd V k = 0 := by
  have : n ≤ 64 * k := by unfold nw at hk; omega
  unfold wd
  rw [Nat.div_eq_of_lt (Nat.lt_of_lt_of_le h (Nat.pow_le_pow_right (by decide) this))]

theorem wd_cat_low {V n : Nat} (x : Nat) (h : V < 2 ^ n) (i : Nat) (hi : i < n / 64) : wd (cat V n x) i = wd V i := by
  apply Nat.eq_of_testBit_eq
  intro j
  rw [wd_bit, wd_bit, cat_bit x h]
  by_cases hj : j < 64
  · simp [hj, show 64 * i + j < n by omega]
  · simp [hj]

theorem wd_cat_mid {V n : Nat} (x : Nat) (h : V < 2 ^ n) : wd (cat V n x) (n / 64) = wd V (n / 64) ||| (x * 2 ^ (n % 64) % 18446744073709551616) := by
  apply Nat.eq_of_testBit_eq
  intro j
  rw [wd_bit, Nat.testBit_or, wd_bit, cat_bit x h, show (18446744073709551616 : Nat) = 2 ^ 64 from rfl, Nat.testBit_mod_two_pow, ← Nat.shiftLeft_eq, Nat.testBit_shiftLeft]
  by_cases hj : j < 64
  · by_cases h2 : 64 * (n / 64) + j < n
    · have : ¬ n % 64 ≤ j := by omega
      simp [hj, h2, this]
    · have h3 : n % 64 ≤ j := by omega
      have h4 : 64 * (n / 64) + j - n = j - n % 64 := by omega
      simp [hj, h2, h3, h4, bit_above h (show n ≤ 64 * (n / 64) + j by omega)]
  · simp [hj]

theorem wd_cat_new {V n x : Nat} (h : V < 2 ^ n) (hx : x < 18446744073709551616) (_hu : n % 64 ≠ 0) : wd (cat V n x) (n / 64 + 1) = x / 2 ^ (64 - n % 64) := by
  apply Nat.eq_of_testBit_eq
  intro j
  rw [wd_bit, cat_bit x h, Nat.testBit_div_two_pow]
  have h2 : ¬ 64 * (n / 64 + 1) + j < n := by omega
  have h3 : 64 * (n / 64 + 1) + j - n = j + (64 - n % 64) := by omega
  by_cases hj : j < 64
  · simp [hj, h2, h3]
  · have : x < 2 ^ 64 := hx
    simp [hj, bit_above this (show 64 ≤ j + (64 - n % 64) by omega)]

theorem wd_cat_first {V n x : Nat} (h : V < 2 ^ n) (hx : x < 18446744073709551616) (hu : n % 64 = 0) : wd (cat V n x) (n / 64) = x := by
  apply Nat.eq_of_testBit_eq
  intro j
  rw [wd_bit, cat_bit x h]
  have h2 : ¬ 64 * (n / 64) + j < n := by omega
  have h3 : 64 * (n / 64) + j - n = j := by omega
  by_cases hj : j < 64
  · simp [hj, h2, h3]
  · have : x < 2 ^ 64 := hx
    simp [hj, bit_above this (show 64 ≤ j by omega)]

/-! ### Cuts -/
/-- The m bits of V from the bit at_ on. -/
def cutV (V : Nat) (at_ : Int) (m : Nat) : Nat := (if at_ < 0 then V * 2 ^ (-at_).toNat else V / 2 ^ at_.toNat) % 2 ^ m

theorem cutV_bit (V : Nat) (at_ : Int) (m j : Nat) : (cutV V at_ m).testBit j = (decide (j < m) && (decide (0 ≤ at_ + j) && V.testBit (at_ + j).toNat)) := by
  unfold cutV
  rw [Nat.testBit_mod_two_pow]
  congr 1
  by_cases h : at_ < 0
  · rw [if_pos h, ← Nat.shiftLeft_eq, Nat.testBit_shiftLeft]
    by_cases h2 : 0 ≤ at_ + j
    · have h3 : (-at_).toNat ≤ j := by omega
      have h4 : (at_ + j).toNat = j - (-at_).toNat := by omega
      simp [h2, h3, h4]
    · have h3 : ¬ (-at_).toNat ≤ j := by omega
      simp [h2, h3]
  · rw [if_neg h, Nat.testBit_div_two_pow]
    have h4 : (at_ + j).toNat = j + at_.toNat := by omega
    have h2 : 0 ≤ at_ + j := by omega
    simp [h2, h4]

/-- The word k, below 0 too. -/
def wdI (V : Nat) (k : Int) : Nat := if k < 0 then 0 else wd V k.toNat
theorem wdI_lt (V : Nat) (k : Int) : wdI V k < 18446744073709551616 := by
  unfold wdI; split
  · decide
  · exact wd_lt _ _
theorem wdI_bit (V : Nat) (k : Int) (j : Nat) : (wdI V k).testBit j = (decide (j < 64) && (decide (0 ≤ k) && V.testBit (64 * k + j).toNat)) := by
  unfold wdI
  by_cases h : k < 0
  · have : ¬ 0 ≤ k := by omega
    simp [h, this]
  · have h2 : 0 ≤ k := by omega
    have h3 : (64 * k + j).toNat = 64 * k.toNat + j := by omega
    simp [h, h2, wd_bit, h3]

theorem sh_up_bit (x : Nat) (u j : Nat) (hu : u < 64) (_hj : j < 64) : (sh x (u : Int)).testBit j = x.testBit (j + u) := by
  unfold sh
  rw [if_neg (by omega), if_neg (by omega), Nat.testBit_div_two_pow]
  simp
theorem sh_down_bit (x : Nat) (u j : Nat) (hu : u < 64) (hj : j < 64) : (sh x ((u : Int) - 64)).testBit j = (decide (64 - u ≤ j) && x.testBit (j + u - 64)) := by
  unfold sh
  by_cases h0 : u = 0
  · subst h0
    have : ¬ 64 ≤ j := by omega
    simp [this]
  · rw [if_neg (by omega), if_pos (by omega), ← Nat.shiftLeft_eq, Nat.testBit_shiftLeft]
    have h1 : (-((u : Int) - 64)).toNat = 64 - u := by omega
    have h2 : j - (64 - u) = j + u - 64 := by omega
    by_cases h3 : 64 - u ≤ j
    · simp [h1, h3, h2]
    · simp [h1, h3]

/-- A cut is put together of two neighbours. -/
theorem cut_two (V : Nat) (k : Int) (u m : Nat) (hu : u < 64) (hm : m ≤ 64) :
    (sh (wdI V k) (u : Int) % 2 ^ m) ||| (sh (wdI V (k + 1)) ((u : Int) - 64) % 2 ^ m) = cutV V (64 * k + u) m := by
  apply Nat.eq_of_testBit_eq
  intro j
  rw [Nat.testBit_or, Nat.testBit_mod_two_pow, Nat.testBit_mod_two_pow, cutV_bit]
  by_cases hj : j < m
  · rw [sh_up_bit _ _ _ hu (by omega), sh_down_bit _ _ _ hu (by omega), wdI_bit, wdI_bit]
    by_cases h : j + u < 64
    · have h2 : ¬ 64 - u ≤ j := by omega
      have h3 : (64 * k + ((j + u : Nat) : Int)) = 64 * k + u + j := by omega
      have h4 : decide (0 ≤ k) = decide (0 ≤ 64 * k + (u : Int) + j) := by simp; omega
      rw [h4, h3]
      simp [hj, h, h2]
    · have h2 : 64 - u ≤ j := by omega
      have h3 : j + u - 64 < 64 := by omega
      have h4 : decide (0 ≤ k + 1) = decide (0 ≤ 64 * k + (u : Int) + j) := by simp; omega
      have h5 : 64 * (k + 1) + ((j + u - 64 : Nat) : Int) = 64 * k + u + j := by omega
      rw [h4, h5]
      simp [hj, h, h2, h3]
  · simp [hj]

theorem cutV_word (V i : Nat) : cutV V ((64 * i : Nat) : Int) 64 = wd V i := by
  unfold cutV wd
  rw [if_neg (by omega)]
  rfl

theorem cutV_lt (V : Nat) (a : Int) (m : Nat) (h : m ≤ 64) : cutV V a m < 18446744073709551616 :=
  Nat.lt_of_lt_of_le (Nat.mod_lt _ (Nat.two_pow_pos m)) (Nat.pow_le_pow_right (by decide) h)

theorem cutV_zero (V : Nat) (a : Int) : cutV V a 0 = 0 := by simp [cutV, Nat.mod_one]

theorem bit_eq (x i : Nat) : x.testBit i = decide (x / 2 ^ i % 2 = 1) := Nat.testBit_eq_decide_div_mod_eq

theorem cutV_succ (V : Nat) (a : Int) (m : Nat) : cutV V a (m + 1) = cutV V a m + (if 0 ≤ a + m ∧ V.testBit (a + m).toNat = true then 2 ^ m else 0) := by
  have hb := cutV_bit V a (m + 1) m
  unfold cutV at hb ⊢
  generalize (if a < 0 then V * 2 ^ (-a).toNat else V / 2 ^ a.toNat) = y at hb ⊢
  rw [mod_succ]
  rw [Nat.testBit_mod_two_pow, bit_eq] at hb
  simp at hb
  by_cases h : 0 ≤ a + m ∧ V.testBit (a + m).toNat = true
  · rw [if_pos h]
    have : y / 2 ^ m % 2 = 1 := by
      rw [h.2] at hb
      simpa [h.1] using hb
    rw [this, Nat.mul_one]
  · rw [if_neg h]
    have : ¬ y / 2 ^ m % 2 = 1 := by
      intro h2
      apply h
      simp only [h2, decide_true] at hb
      have := hb.symm
      simp only [Bool.and_eq_true, decide_eq_true_eq] at this
      exact this
    have h0 : y / 2 ^ m % 2 = 0 := by omega
    rw [h0, Nat.mul_zero]

/-! ### Ones -/
theorem rk_wd (V k : Nat) : rk V (64 * (k + 1)) = rk V (64 * k) + rk (wd V k) 64 := by
  rw [Nat.mul_succ, rk_add]
  unfold wd
  rw [rk_mod _ _ _ (Nat.le_refl _)]
theorem rk_above {V n m : Nat} (h : V < 2 ^ n) (hm : n ≤ m) : rk V m = rk V n := by
  obtain ⟨d, rfl⟩ : ∃ d, m = n + d := ⟨m - n, by omega⟩
  rw [rk_add, Nat.div_eq_of_lt h, rk_zero, Nat.add_zero]
theorem rk_words {V n : Nat} (h : V < 2 ^ n) : rk V (64 * nw n) = rk V n := rk_above h (by unfold nw; omega)

/-! ### The next one -/
/-- The least number from f on, below n, of a bit that is one; -1: none. -/
def nextV (V : Nat) (f : Int) : Nat → Int
  | 0 => -1
  | n + 1 => if nextV V f n = -1 then (if f ≤ n ∧ V.testBit n = true then (n : Int) else -1) else nextV V f n

theorem nextV_none (V : Nat) (f : Int) (n : Nat) (h : ∀ p : Nat, p < n → f ≤ p → V.testBit p = false) : nextV V f n = -1 := by
  induction n with
  | zero => rfl
  | succ n ih =>
    rw [nextV, ih (fun p hp => h p (by omega)), if_pos rfl]
    by_cases hf : f ≤ n
    · simp [h n (by omega) hf]
    · simp [hf]
theorem nextV_of (V : Nat) (f : Int) (n p : Nat) (hp : p < n) (hf : f ≤ p) (h1 : V.testBit p = true) (h2 : ∀ q : Nat, q < p → f ≤ q → V.testBit q = false) : nextV V f n = p := by
  induction n with
  | zero => omega
  | succ n ih =>
    rw [nextV]
    by_cases hpn : p < n
    · rw [ih hpn, if_neg (by omega)]
    · obtain rfl : p = n := by omega
      rw [nextV_none V f p h2]
      simp [hf, h1]

/-! ### Words that came in -/
/-- The number whose words are f. -/
def ofW (f : Nat → Nat) : Nat → Nat
  | 0 => 0
  | k + 1 => cat (ofW f k) (64 * k) (f k)
theorem ofW_lt (f : Nat → Nat) (K : Nat) (hf : ∀ j, j < K → f j < 18446744073709551616) : ofW f K < 2 ^ (64 * K) := by
  induction K with
  | zero => simp [ofW]
  | succ k ih => exact cat_lt (m := 64) (ih fun j hj => hf j (by omega)) (hf k (by omega))
theorem ofW_wd (f : Nat → Nat) (K : Nat) (hf : ∀ j, j < K → f j < 18446744073709551616) (j : Nat) (hj : j < K) : wd (ofW f K) j = f j := by
  induction K with
  | zero => omega
  | succ k ih =>
    have hk := ofW_lt f k fun j hj => hf j (by omega)
    rw [ofW]
    by_cases h : j < k
    · rw [wd_cat_low _ hk _ (by omega)]
      exact ih (fun j hj => hf j (by omega)) h
    · obtain rfl : j = k := by omega
      have := wd_cat_first hk (hf j (by omega)) (by omega)
      rwa [show 64 * j / 64 = j by omega] at this

theorem bit_of_word (V i : Nat) : (wd V (i / 64)).testBit (i % 64) = V.testBit i := by
  rw [wd_bit, show 64 * (i / 64) + i % 64 = i by omega]
  simp [Nat.mod_lt]

/-- Numbers with the same words are the same. -/
theorem eq_of_words {V W n : Nat} (h : V < 2 ^ n) (h' : W < 2 ^ n) (he : ∀ j, j < nw n → wd V j = wd W j) : V = W := by
  apply Nat.eq_of_testBit_eq
  intro i
  by_cases hi : i < n
  · rw [← bit_of_word V, ← bit_of_word W, he (i / 64) (by unfold nw; omega)]
  · rw [bit_above h (by omega), bit_above h' (by omega)]

theorem mod_step (W i : Nat) : W % 2 ^ (i + 1) = cat (W % 2 ^ i) i (if W.testBit i then 1 else 0) := by
  unfold cat
  rw [mod_succ, bit_eq]
  rcases Nat.mod_two_eq_zero_or_one (W / 2 ^ i) with h | h <;> simp [h] <;> omega

end Go.Proofs.YtgcaenpflndibaaDoor
