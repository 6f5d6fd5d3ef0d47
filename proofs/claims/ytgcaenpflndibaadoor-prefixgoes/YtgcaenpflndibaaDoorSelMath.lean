/-
  The k-th one and the k-th nought of a row: plain facts, no Go in sight.
-/
import Derived.Test.YtgcaenpflndibaaDoorDirTell
namespace Go.Proofs.YtgcaenpflndibaaDoor

theorem bit_one {x p : Nat} : x / 2 ^ p % 2 = 1 ↔ x.testBit p = true := by rw [bit_eq]; simp
theorem rk_step (x i : Nat) : rk x (i + 1) = rk x i + (if x.testBit i = true then 1 else 0) := by
  rw [rk]
  by_cases h : x.testBit i = true
  · rw [if_pos h, bit_one.2 h]
  · rw [if_neg h]
    have h1 : ¬ x / 2 ^ i % 2 = 1 := fun h2 => h (bit_one.1 h2)
    omega

theorem sel_outN (x : Nat) (k : Int) (n : Nat) (h : k < 0 ∨ (rk x n : Int) ≤ k) : sel x k n = -1 := by
  refine sel_none x k n fun p hp h1 h2 => ?_
  have := rk_mono x (show p + 1 ≤ n by omega)
  rw [rk] at this
  omega

theorem sel_in (x n k : Nat) (h : k < rk x n) : ∃ p, p < n ∧ x / 2 ^ p % 2 = 1 ∧ rk x p = k := by
  induction n with
  | zero => simp [rk] at h
  | succ n ih =>
    by_cases h1 : k < rk x n
    · obtain ⟨p, hp, h2, h3⟩ := ih h1
      exact ⟨p, by omega, h2, h3⟩
    · rw [rk] at h
      exact ⟨n, by omega, by omega, by omega⟩

/-- The word has the one that is looked for, or fewer ones. -/
theorem sel_word (x k : Nat) : (∃ p : Nat, p < 64 ∧ sel x k 64 = p ∧ x / 2 ^ p % 2 = 1 ∧ rk x p = k) ∨ (sel x k 64 = -1 ∧ rk x 64 ≤ k) := by
  by_cases h : k < rk x 64
  · obtain ⟨p, hp, h1, h2⟩ := sel_in x 64 k h
    exact .inl ⟨p, hp, sel_of x k 64 p hp h1 (by omega), h1, h2⟩
  · exact .inr ⟨sel_outN x k 64 (.inr (by omega)), by omega⟩

theorem wd_low (U q p : Nat) (hp : p < 64) : wd U q / 2 ^ p % 2 = 1 ↔ U / 2 ^ (64 * q + p) % 2 = 1 := by
  rw [bit_one, bit_one, wd_bit]; simp [hp]

/-- The one is found in the word q. -/
theorem sel_found (U q p k n : Nat) (hp : p < 64) (h1 : wd U q / 2 ^ p % 2 = 1) (h2 : rk (wd U q) p + rk U (64 * q) = k) (hn : k < rk U n) : sel U k n = ((64 * q + p : Nat) : Int) := by
  have e : rk U (64 * q + p) = k := by rw [rk_low U q p (by omega)]; omega
  refine sel_of U k n _ ?_ ((wd_low U q p hp).1 h1) (by omega)
  rcases Nat.lt_or_ge (64 * q + p) n with h | h
  · exact h
  · have := rk_mono U h; omega

/-- The number that is turned in all its K words. -/
def flipV (V K : Nat) : Nat := 2 ^ (64 * K) - (V + 1)
theorem flip_lt (V K : Nat) : flipV V K < 2 ^ (64 * K) := by
  unfold flipV; have := Nat.two_pow_pos (64 * K); omega
theorem flip_bit {V K : Nat} (h : V < 2 ^ (64 * K)) (p : Nat) : (flipV V K).testBit p = (decide (p < 64 * K) && !V.testBit p) := by
  unfold flipV; exact Nat.testBit_two_pow_sub_succ h p
theorem flip_wd {V K i : Nat} (h : V < 2 ^ (64 * K)) (hi : i < K) : wd V i ^^^ 18446744073709551615 = wd (flipV V K) i := by
  apply Nat.eq_of_testBit_eq
  intro j
  rw [Nat.testBit_xor, wd_bit, wd_bit, flip_bit h, show (18446744073709551615 : Nat) = 2 ^ 64 - 1 by decide, Nat.testBit_two_pow_sub_one]
  by_cases hj : j < 64
  · simp [hj, show 64 * i + j < 64 * K by omega]
  · simp [hj]
theorem flip_rk {V K : Nat} (h : V < 2 ^ (64 * K)) (j : Nat) (hj : j ≤ 64 * K) : rk (flipV V K) j = j - rk V j := by
  induction j with
  | zero => simp [rk]
  | succ j ih =>
    have hl := rk_le V j
    rw [rk_step, rk_step V, ih (by omega), flip_bit h]
    by_cases hb : V.testBit j = true
    · simp [hb]
    · simp [hb, show j < 64 * K by omega]; omega

/-- The places of the ones, by their numbers. -/
def pl (U n k : Nat) : Nat := (sel U k n).toNat
theorem pl_step (U n i : Nat) (hi : i < n) (hb : U.testBit i = true) : pl U n (rk U i) = i := by
  unfold pl; rw [sel_of U _ n i hi (bit_one.2 hb) rfl]; rfl
theorem pl_at (U n k : Nat) (h : k < rk U n) : ((pl U n k : Nat) : Int) = sel U k n := by
  obtain ⟨p, hp, h1, h2⟩ := sel_in U n k h
  have := sel_of U k n p hp h1 (by omega)
  unfold pl; rw [this]; rfl
theorem pl_lt (U n k : Nat) (h : k < rk U n) : pl U n k < n := by
  obtain ⟨p, hp, h1, h2⟩ := sel_in U n k h
  have := sel_of U k n p hp h1 (by omega)
  unfold pl; rw [this]; exact hp

/-- How many there are ahead of the mark m. -/
def ah (U n m : Nat) : Nat := rk U (min (512 * m) n)
theorem ah_mono (U n : Nat) {a b : Nat} (h : a ≤ b) : ah U n a ≤ ah U n b := rk_mono U (by omega)
theorem ah_last (U n : Nat) : ah U n (nm n) = rk U n := mk_last U n
theorem ah_first (U n : Nat) : ah U n 0 = 0 := by simp [ah, rk]
theorem ah_in (U n s : Nat) (h : s < nm n) : ah U n s = rk U (64 * (8 * s)) := by
  have := mk_below U n s h
  rw [show 64 * (8 * s) = 512 * s by omega]; exact this
theorem ah_le (U n m : Nat) : ah U n m ≤ n := Nat.le_trans (rk_le _ _) (by omega)

end Go.Proofs.YtgcaenpflndibaaDoor
