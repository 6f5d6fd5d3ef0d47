/-
  A sequence's bits, plainly: the low bits, and behind them the high ones; what any bits are as a sequence.
-/
import Derived.Test.YtbfolfacppbalaaDoorWireBase
import Derived.Test.YtbfolfacppbalaaDoorSeqA
namespace Go.Proofs.YtbfolfacppbalaaDoor
open Go.RowKit

/-- All bits of n numbers with the low width d. -/
def seqV (f : Nat → Nat) (d n : Nat) : Nat := cat (packV d (fun i => f i % 2 ^ d) n) (d * n) (hV f d n)
def seqN (f : Nat → Nat) (d n : Nat) : Nat := d * n + hN f d n
theorem lows_lt (f : Nat → Nat) (d n : Nat) : packV d (fun i => f i % 2 ^ d) n < 2 ^ (d * n) := packV_lt d _ n fun _ _ => Nat.mod_lt _ (Nat.two_pow_pos d)
theorem seqV_lt {f : Nat → Nat} {n : Nat} (h : Climbs f n) (d : Nat) : seqV f d n < 2 ^ seqN f d n := cat_lt (lows_lt f d n) (hV_lt h d (Nat.le_refl _))
theorem seqN_le {f : Nat → Nat} {n : Nat} (h : Climbs f n) : seqN f (wdt f n) n ≤ 43 * n := by
  have h1 := hN_bound h
  have h2 := Nat.mul_le_mul_right n (wdt_le h)
  unfold seqN
  omega
/-- A sequence's bytes. -/
def seqB (f : Nat → Nat) (n : Nat) : List UInt8 := if n = 0 then num 0 else num n ++ (num (lst f n) ++ rby (seqV f (wdt f n) n) (seqN f (wdt f n) n))
theorem seqB_none (f : Nat → Nat) : seqB f 0 = num 0 := if_pos rfl
theorem seqB_some (f : Nat → Nat) {n : Nat} (h : n ≠ 0) : seqB f n = num n ++ (num (lst f n) ++ rby (seqV f (wdt f n) n) (seqN f (wdt f n) n)) := if_neg h
theorem lst_pos (f : Nat → Nat) {n : Nat} (h : n ≠ 0) : lst f n = f (n - 1) := by
  cases n with
  | zero => exact absurd rfl h
  | succ n => rfl

theorem pl_is (U n k : Nat) (h : k < rk U n) : U.testBit (pl U n k) = true ∧ rk U (pl U n k) = k := by
  obtain ⟨p, hp, hb, hk⟩ := sel_in U n k h
  have h1 := pl_step U n p hp (bit_one.1 hb)
  rw [hk] at h1
  rw [h1]
  exact ⟨bit_one.1 hb, hk⟩
theorem pl_le (U n k : Nat) (h : k < rk U n) : k ≤ pl U n k := by
  have h1 := rk_le U (pl U n k)
  rw [(pl_is U n k h).2] at h1
  exact h1
theorem shr_bit (V s j : Nat) : (V / 2 ^ s).testBit j = V.testBit (s + j) := by rw [Nat.testBit_div_two_pow, Nat.add_comm]
/-- A one is counted behind it. -/
theorem rk_past (U : Nat) {p q : Nat} (hb : U.testBit p = true) (h : p < q) : rk U p + 1 ≤ rk U q := by
  have h1 := rk_mono U (show p + 1 ≤ q from h)
  rw [rk_step, if_pos hb] at h1
  exact h1
/-- The next one from a place on, of the bits behind s. -/
theorem next_in (V s y M k : Nat) (hk : rk (V / 2 ^ s) y = k) (h : k < rk (V / 2 ^ s) M) : nextV V ((s + y : Nat) : Int) (s + M) = ((s + pl (V / 2 ^ s) M k : Nat) : Int) ∧ rk (V / 2 ^ s) (pl (V / 2 ^ s) M k + 1) = k + 1 := by
  obtain ⟨h1, h2⟩ := pl_is _ _ _ h
  have h3 := pl_lt _ _ _ h
  have hy : y ≤ pl (V / 2 ^ s) M k := Nat.le_of_not_lt fun hlt => by
    have := rk_past _ h1 hlt
    omega
  refine ⟨nextV_of V _ _ _ (by omega) (by omega) (by rw [← shr_bit]; exact h1) fun q hq hf => ?_, by rw [rk_step, if_pos h1, h2]⟩
  obtain ⟨j, rfl⟩ : ∃ j, q = s + j := ⟨q - s, by omega⟩
  rw [← shr_bit]
  cases hb : (V / 2 ^ s).testBit j with
  | false => rfl
  | true =>
    have h4 := rk_past _ hb (show j < pl (V / 2 ^ s) M k by omega)
    have h5 := rk_mono (V / 2 ^ s) (show y ≤ j by omega)
    omega
theorem next_out (V s y M : Nat) (h : rk (V / 2 ^ s) M ≤ rk (V / 2 ^ s) y) : nextV V ((s + y : Nat) : Int) (s + M) = -1 := by
  refine nextV_none V _ _ fun p hp hf => ?_
  obtain ⟨j, rfl⟩ : ∃ j, p = s + j := ⟨p - s, by omega⟩
  rw [← shr_bit]
  cases hb : (V / 2 ^ s).testBit j with
  | false => rfl
  | true =>
    have h4 := rk_past _ hb (show j < M by omega)
    have h5 := rk_mono (V / 2 ^ s) (show y ≤ j by omega)
    omega

/-- The i-th number that bits have: n low parts of d bits, behind them M bits. -/
def gN (V d n M i : Nat) : Nat := (pl (V / 2 ^ (d * n)) M i - i) * 2 ^ d + V / 2 ^ (d * i) % 2 ^ d
/-- How many numbers they have, n at the most. -/
def gC (V d n M : Nat) : Nat := min n (rk (V / 2 ^ (d * n)) M)
theorem gN_high (V d n M i : Nat) : gN V d n M i / 2 ^ d = pl (V / 2 ^ (d * n)) M i - i := by
  unfold gN
  rw [Nat.mul_comm, Nat.mul_add_div (Nat.two_pow_pos d), Nat.div_eq_of_lt (Nat.mod_lt _ (Nat.two_pow_pos d)), Nat.add_zero]
theorem gN_low (V d n M i : Nat) : gN V d n M i % 2 ^ d = V / 2 ^ (d * i) % 2 ^ d := by
  unfold gN
  rw [Nat.mul_comm, Nat.mul_add_mod, Nat.mod_mod]
/-- The high part's ones are the numbers' places alone. -/
theorem hV_ones {f : Nat → Nat} {n : Nat} (h : Climbs f n) (d j : Nat) (hb : (hV f d n).testBit j = true) : ∃ c, c < n ∧ hp f d c = j := by
  have h1 := rk_step (hV f d n) j
  rw [if_pos hb, rk_hV h d j (Nat.le_refl _), rk_hV h d (j + 1) (Nat.le_refl _)] at h1
  have h2 := bel_le (hp f d) (j + 1) n
  obtain ⟨_, h4⟩ := bel_parts (hp_up h d) j
  obtain ⟨h5, _⟩ := bel_parts (hp_up h d) (j + 1)
  have h6 := h4 (bel (hp f d) j n) (Nat.le_refl _) (by omega)
  have h7 := h5 (bel (hp f d) j n) (by omega)
  exact ⟨bel (hp f d) j n, by omega, by omega⟩
/-- Numbers that bits have, all of them, the last one as it was told: their bits are these. -/
theorem got_same (V d n u : Nat) (hn : n ≠ 0) (hc : n ≤ rk (V / 2 ^ (d * n)) (n + u / 2 ^ d)) (hl : gN V d n (n + u / 2 ^ d) (n - 1) = u) (hC : Climbs (gN V d n (n + u / 2 ^ d)) n) (hV : V < 2 ^ (d * n + (n + u / 2 ^ d))) :
    seqV (gN V d n (n + u / 2 ^ d)) d n = V ∧ seqN (gN V d n (n + u / 2 ^ d)) d n = d * n + (n + u / 2 ^ d) := by
  obtain ⟨M, hM⟩ : ∃ M, n + u / 2 ^ d = M := ⟨_, rfl⟩
  rw [hM] at hc hl hC hV ⊢
  obtain ⟨H, hH⟩ : ∃ H, V / 2 ^ (d * n) = H := ⟨_, rfl⟩
  have hhp : ∀ k, k < n → hp (gN V d n M) d k = pl H M k := fun k hk => by
    unfold hp
    rw [gN_high, hH]
    have := pl_le H M k (by rw [← hH]; omega)
    omega
  have hlast : pl H M (n - 1) + 1 = M := by
    have h1 := gN_high V d n M (n - 1)
    rw [hl, hH] at h1
    have h2 := pl_le H M (n - 1) (by rw [← hH]; omega)
    omega
  have hN : hN (gN V d n M) d n = M := by
    obtain ⟨m, rfl⟩ : ∃ m, n = m + 1 := ⟨n - 1, by omega⟩
    rw [hN, hhp m (by omega)]
    exact hlast
  have hHlt : H < 2 ^ M := by
    rw [← hH, Nat.div_lt_iff_lt_mul (Nat.two_pow_pos _), ← Nat.pow_add, Nat.add_comm]
    exact hV
  have hhV : Go.Proofs.YtbfolfacppbalaaDoor.hV (gN V d n M) d n = H := by
    apply Nat.eq_of_testBit_eq
    intro j
    cases hb : H.testBit j with
    | true =>
      have hj : j < M := Nat.lt_of_not_le fun h => by rw [bit_above hHlt h] at hb; cases hb
      have hk : rk H j < n := by
        rcases Nat.lt_or_ge j (pl H M (n - 1)) with h | h
        · have h1 := rk_past H hb h
          rw [(pl_is H M (n - 1) (by rw [← hH]; omega)).2] at h1
          omega
        · have hj2 : j = pl H M (n - 1) := by omega
          rw [hj2, (pl_is H M (n - 1) (by rw [← hH]; omega)).2]
          omega
      have h1 := hp_bit hC d hk
      rw [hhp _ hk, pl_step H M j hj hb] at h1
      exact h1
    | false =>
      cases hb2 : (Go.Proofs.YtbfolfacppbalaaDoor.hV (gN V d n M) d n).testBit j with
      | false => rfl
      | true =>
        obtain ⟨c, hcn, hcj⟩ := hV_ones hC d j hb2
        rw [hhp c hcn] at hcj
        rw [← hcj, (pl_is H M c (by rw [← hH]; omega)).1] at hb
        cases hb
  refine ⟨?_, by unfold seqN; rw [hN]⟩
  unfold seqV
  rw [hhV, packV_congr d n (fun j _ => gN_low V d n M j), packV_of, ← hH]
  unfold cat
  exact Nat.div_add_mod V _
theorem cat_high {L s H : Nat} (h : L < 2 ^ s) : cat L s H / 2 ^ s = H := by
  unfold cat
  rw [Nat.mul_add_div (Nat.two_pow_pos s), Nat.div_eq_of_lt h, Nat.add_zero]
theorem cat_part {L s H a d : Nat} (h : L < 2 ^ s) (hs : a + d ≤ s) : cat L s H / 2 ^ a % 2 ^ d = L / 2 ^ a % 2 ^ d := by
  apply Nat.eq_of_testBit_eq
  intro j
  rw [Nat.testBit_mod_two_pow, Nat.testBit_mod_two_pow, shr_bit, shr_bit, cat_bit H h]
  by_cases hj : j < d
  · rw [if_pos (by omega)]
  · simp [hj]
/-- A sequence's bits are got as its numbers. -/
theorem got_back {f : Nat → Nat} {n : Nat} (h : Climbs f n) (hn : n ≠ 0) (d : Nat) : hN f d n = n + f (n - 1) / 2 ^ d ∧ n ≤ rk (seqV f d n / 2 ^ (d * n)) (n + f (n - 1) / 2 ^ d) ∧ ∀ i, i < n → gN (seqV f d n) d n (n + f (n - 1) / 2 ^ d) i = f i := by
  have hN' : hN f d n = n + f (n - 1) / 2 ^ d := by
    obtain ⟨m, rfl⟩ : ∃ m, n = m + 1 := ⟨n - 1, by omega⟩
    rw [hN, hp, show m + 1 - 1 = m by omega]
    omega
  have hH : seqV f d n / 2 ^ (d * n) = hV f d n := cat_high (lows_lt f d n)
  refine ⟨hN', by rw [hH, ← hN', rk_all h]; exact Nat.le_refl _, fun i hi => ?_⟩
  unfold gN
  rw [hH, ← hN', pl_hp h d hi]
  have hlow : seqV f d n / 2 ^ (d * i) % 2 ^ d = f i % 2 ^ d := by
    unfold seqV
    rw [cat_part (lows_lt f d n) (by rw [← Nat.mul_succ]; exact Nat.mul_le_mul_left d hi)]
    exact packV_cut d _ n i (fun j _ => Nat.mod_lt _ (Nat.two_pow_pos d)) hi
  rw [hlow]
  unfold hp
  rw [Nat.add_sub_cancel, Nat.mul_comm]
  exact Nat.div_add_mod _ _
/-- No number is great. -/
theorem gN_le (V d n u i : Nat) (hi : i < rk (V / 2 ^ (d * n)) (n + u / 2 ^ d)) : gN V d n (n + u / 2 ^ d) i < (n + u / 2 ^ d) * 2 ^ d := by
  have h1 := pl_lt _ _ _ hi
  have h2 : V / 2 ^ (d * i) % 2 ^ d < 2 ^ d := Nat.mod_lt _ (Nat.two_pow_pos d)
  unfold gN
  have h3 : (pl (V / 2 ^ (d * n)) (n + u / 2 ^ d) i - i + 1) * 2 ^ d ≤ (n + u / 2 ^ d) * 2 ^ d := Nat.mul_le_mul_right _ (by omega)
  rw [Nat.add_mul, Nat.one_mul] at h3
  omega
theorem low_mul (n u : Nat) (hn : 1 ≤ n) (h64 : u < 18446744073709551616) : n * 2 ^ lowN n u ≤ n + u := by
  by_cases h : u < n
  · rw [low_small n u h]; omega
  · have h1 := (low_iff n u (lowN n u) hn (by omega) h64).2 (Nat.le_refl _)
    have h2 := Nat.mul_le_mul_right (2 ^ lowN n u) h1
    have h3 := Nat.div_mul_le_self u (2 ^ lowN n u)
    omega

end Go.Proofs.YtbfolfacppbalaaDoor
