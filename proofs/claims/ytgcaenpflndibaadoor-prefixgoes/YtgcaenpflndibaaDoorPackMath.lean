/-
  Numbers of one width, one behind the other; the least width of some numbers.
-/
import Derived.Test.YtgcaenpflndibaaDoorRefB
namespace Go.Proofs.YtgcaenpflndibaaDoor
open Go.RowKit

/-- The row of the first k numbers, of d bits each. -/
def packV (d : Nat) (f : Nat → Nat) : Nat → Nat
  | 0 => 0
  | k + 1 => cat (packV d f k) (d * k) (f k)

theorem packV_lt (d : Nat) (f : Nat → Nat) (k : Nat) (h : ∀ j, j < k → f j < 2 ^ d) : packV d f k < 2 ^ (d * k) := by
  induction k with
  | zero => simp [packV]
  | succ k ih =>
    rw [packV, Nat.mul_succ]
    exact cat_lt (ih fun j hj => h j (by omega)) (h k (by omega))

theorem packV_congr (d : Nat) {f g : Nat → Nat} (k : Nat) (h : ∀ j, j < k → f j = g j) : packV d f k = packV d g k := by
  induction k with
  | zero => rfl
  | succ k ih => rw [packV, packV, ih fun j hj => h j (by omega), h k (by omega)]

theorem packV_cut (d : Nat) (f : Nat → Nat) (k i : Nat) (h : ∀ j, j < k → f j < 2 ^ d) (hi : i < k) : packV d f k / 2 ^ (d * i) % 2 ^ d = f i := by
  induction k with
  | zero => omega
  | succ k ih =>
    rw [packV, cat]
    by_cases hk : i = k
    · subst hk
      rw [Nat.mul_add_div (Nat.two_pow_pos _), Nat.div_eq_of_lt (packV_lt d f i fun j hj => h j (by omega)), Nat.add_zero, Nat.mod_eq_of_lt (h i (by omega))]
    · have hik : i < k := by omega
      obtain ⟨t, rfl⟩ : ∃ t, k = i + 1 + t := ⟨k - (i + 1), by omega⟩
      have e : 2 ^ (d * (i + 1 + t)) * f (i + 1 + t) = 2 ^ (d * i) * (2 ^ d * (2 ^ (d * t) * f (i + 1 + t))) := by
        rw [← Nat.mul_assoc, ← Nat.mul_assoc, ← Nat.pow_add, ← Nat.pow_add]
        congr 2
        rw [Nat.mul_add, Nat.mul_add, Nat.mul_one]
      rw [e, Nat.mul_add_div (Nat.two_pow_pos _), Nat.mul_add_mod]
      exact ih (fun j hj => h j (by omega)) hik

theorem packV_of (d W k : Nat) : packV d (fun i => W / 2 ^ (d * i) % 2 ^ d) k = W % 2 ^ (d * k) := by
  induction k with
  | zero => simp [packV, Nat.mod_one]
  | succ k ih => rw [packV, ih, cat, Nat.mul_succ, Nat.pow_add, Nat.mod_mul, Nat.add_comm]

/-- The least width of the first k numbers. -/
def wid (f : Nat → Nat) : Nat → Nat
  | 0 => 0
  | k + 1 => max (wid f k) (Lib.bitLen (f k))

theorem wid_le (f : Nat → Nat) (k d : Nat) : wid f k ≤ d ↔ ∀ j, j < k → Lib.bitLen (f j) ≤ d := by
  induction k with
  | zero => simp [wid]
  | succ k ih =>
    rw [wid, Nat.max_le, ih]
    constructor
    · rintro ⟨h1, h2⟩ j hj
      rcases (show j < k ∨ j = k by omega) with h | rfl
      · exact h1 j h
      · exact h2
    · intro h
      exact ⟨fun j hj => h j (by omega), h k (by omega)⟩

theorem bitLen_le64 (x : Nat) (h : x < 18446744073709551616) : Lib.bitLen x ≤ 64 := Lib.bitLen_le x 64 (by decide) h
theorem wid_le64 (f : Nat → Nat) (k : Nat) (h : ∀ j, j < k → f j < 18446744073709551616) : wid f k ≤ 64 := (wid_le f k 64).2 fun j hj => bitLen_le64 _ (h j hj)
theorem fits (f : Nat → Nat) (k d : Nat) (hf : ∀ j, j < k → f j < 18446744073709551616) (h : wid f k ≤ d) : ∀ j, j < k → f j < 2 ^ d :=
  fun j hj => width_lt _ _ (hf j hj) ((wid_le f k d).1 h j hj)

/-- The i-th number of n numbers of d bits. -/
def atV (V d n : Nat) (i : Int) : Nat := if 0 ≤ i ∧ i < n then V / 2 ^ (d * i.toNat) % 2 ^ d else 0
theorem atV_pack (d : Nat) (f : Nat → Nat) (k i : Nat) (h : ∀ j, j < k → f j < 2 ^ d) (hi : i < k) : atV (packV d f k) d k i = f i := by
  unfold atV
  rw [if_pos ⟨by omega, by omega⟩, Int.toNat_natCast, packV_cut d f k i h hi]
theorem atV_out (V d n : Nat) (i : Int) (h : ¬ (0 ≤ i ∧ i < n)) : atV V d n i = 0 := if_neg h
theorem atV_lt (V d n : Nat) (i : Int) (hd : d ≤ 64) : atV V d n i < 18446744073709551616 := by
  unfold atV
  split
  · exact mod_lt64 _ _ hd
  · decide

end Go.Proofs.YtgcaenpflndibaaDoor
