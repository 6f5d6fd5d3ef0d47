/-
  rankdir's Len, Rank, Zeros, Marks; of nil too.
  The k-th one and the k-th nought of a row: plain facts, no Go in sight.
  Numbers of one width, one behind the other; the least width of some numbers.
-/
import Derived.Test.YtbjgbigalfhnjaaGreatDoorSet05
namespace Go.Proofs.YtbjgbigalfhnjaaGreatDoor
open Go.RowKit

/-- A slice of K ints is read. -/
def IRd (w : World) (v : Value) (K : Nat) (f : Nat → Nat) : Prop :=
  (K = 0 ∧ ∃ ao cap, v = .slice ao 0 cap) ∨ ∃ g cap, v = .slice (some ⟨g, 0, none⟩) K cap ∧ g < w.heap.size ∧ ∀ j, j < K → w.cell? ⟨g, j, none⟩ = some (.int .i64 (f j : Nat))
theorem ird_of_own {w : World} {base : Nat} {v : Value} {K : Nat} {f : Nat → Nat} (h : w.ownsRow base 3 1 v K (ints f K)) : IRd w v K f := by
  rcases h.2 with ⟨rfl, hn⟩ | ⟨g, cap, cur, rfl, _, hg, _⟩
  · exact .inl ⟨hn, _, _, rfl⟩
  · exact .inr ⟨g, cap, rfl, lt_of_block hg, fun j hj => by rw [h.cellAt j (by omega), ints_get _ _ _ hj]⟩
theorem IRd.shape {w : World} {v : Value} {K : Nat} {f : Nat → Nat} (h : IRd w v K f) : ∃ ao cap, v = .slice ao K cap := by
  rcases h with ⟨rfl, ao, cap, rfl⟩ | ⟨g, cap, rfl, _⟩
  · exact ⟨_, _, rfl⟩
  · exact ⟨_, _, rfl⟩
theorem IRd.more {w w' : World} {v : Value} {K : Nat} {f : Nat → Nat} (h : IRd w v K f) (k : More w w') : IRd w' v K f := by
  rcases h with h | ⟨g, cap, rfl, hg, hc⟩
  · exact .inl h
  · exact .inr ⟨g, cap, rfl, Nat.lt_of_lt_of_le hg k.size, fun j hj => (k.cell (p := ⟨g, j, none⟩) hg).trans (hc j hj)⟩

/-- A directory as it is read. -/
structure DirRd (w : World) (d V n : Nat) : Prop where
  fit : V < 2 ^ n
  len : n ≤ 1099511627776
  c2 : w.cell? ⟨d, 2, none⟩ = some (.int .i64 n)
  c0 : ∃ v, w.cell? ⟨d, 0, none⟩ = some v ∧ Rd w v (nw n) (wd V)
  c1 : ∃ m, w.cell? ⟨d, 1, none⟩ = some m ∧ IRd w m (nm n + 1) (mk V n)

theorem DirAt.rd {w : World} {base d V n : Nat} (h : DirAt w base d V n) : DirRd w d V n := by
  obtain ⟨v, _, m, hb, hv, hm⟩ := h.mem
  obtain ⟨c0, c1, c2, _⟩ := cells3 hb
  exact ⟨h.fit, h.len, c2, ⟨v, c0, rd_of_own hv⟩, ⟨m, c1, ird_of_own hm⟩⟩
theorem DirRd.more {w w' : World} {d V n : Nat} (h : DirRd w d V n) (k : More w w') : DirRd w' d V n := by
  obtain ⟨v, c0, hv⟩ := h.c0
  obtain ⟨m, c1, hm⟩ := h.c1
  have hd := World.block_lt_of_cell? w _ h.c2
  exact ⟨h.fit, h.len, (k.cell hd).trans h.c2, ⟨v, (k.cell (p := ⟨d, 0, none⟩) hd).trans c0, hv.more k⟩, ⟨m, (k.cell (p := ⟨d, 1, none⟩) hd).trans c1, hm.more k⟩⟩

/-- The number from 0 to n that is nearest to i. -/
def near (i : Int) (n : Nat) : Nat := min i.toNat n
theorem near_eq (i : Int) (n : Nat) : min (max i 0) (n : Int) = (near i n : Nat) := by unfold near; omega
theorem near_le (i : Int) (n : Nat) : near i n ≤ n := Nat.min_le_right _ _

theorem Rd.at {w : World} {ao : Option Addr} {K cap : Nat} {f : Nat → Nat} (h : Rd w (.slice ao K cap) K f) (hK : 0 < K) : ∃ g o, ao = some ⟨g, o, none⟩ ∧ ∀ k, k < K → w.cell? ⟨g, o + k, none⟩ = some (.int .u64 (f k : Nat)) := by
  rcases h with ⟨rfl, _⟩ | ⟨g, o, cap', h, hg, hc⟩
  · omega
  · simp at h
    exact ⟨g, o, h.1, hc⟩
theorem IRd.at {w : World} {ao : Option Addr} {K cap : Nat} {f : Nat → Nat} (h : IRd w (.slice ao K cap) K f) (hK : 0 < K) : ∃ g, ao = some ⟨g, 0, none⟩ ∧ ∀ k, k < K → w.cell? ⟨g, k, none⟩ = some (.int .i64 (f k : Nat)) := by
  rcases h with ⟨rfl, _⟩ | ⟨g, cap', h, hg, hc⟩
  · omega
  · simp at h
    exact ⟨g, h.1, hc⟩

theorem rk_low (V q r : Nat) (hr : r ≤ 64) : rk V (64 * q + r) = rk V (64 * q) + rk (wd V q) r := by
  rw [rk_add]
  unfold wd
  rw [rk_mod _ _ _ hr]

end Go.Proofs.YtbjgbigalfhnjaaGreatDoor

namespace Go.Proofs.YtbjgbigalfhnjaaGreatDoor

theorem bit_one {x p : Nat} : x / 2 ^ p % 2 = 1 ↔ x.testBit p = true := by rw [bit_eq]; simp
theorem rk_step (x i : Nat) : rk x (i + 1) = rk x i + (if x.testBit i = true then 1 else 0) := by
  rw [rk]
  by_cases h : x.testBit i = true
  · rw [if_pos h, bit_one.2 h]
  · rw [if_neg h]
    have h1 : ¬ x / 2 ^ i % 2 = 1 := fun h2 => h (bit_one.1 h2)
    omega

theorem sel_outN (x : Nat) (k : Int) (n : Nat) (h : k < 0 ∨ (rk x n : Int) ≤ k) : sel x k n = -1 := by
  refine sel_none x k n fun p hp h1 h2 => ?_
  have := rk_mono x (show p + 1 ≤ n by omega)
  rw [rk] at this
  omega

theorem sel_in (x n k : Nat) (h : k < rk x n) : ∃ p, p < n ∧ x / 2 ^ p % 2 = 1 ∧ rk x p = k := by
  induction n with
  | zero => simp [rk] at h
  | succ n ih =>
    by_cases h1 : k < rk x n
    · obtain ⟨p, hp, h2, h3⟩ := ih h1
      exact ⟨p, by omega, h2, h3⟩
    · rw [rk] at h
      exact ⟨n, by omega, by omega, by omega⟩

/-- The word has the one that is looked for, or fewer ones. -/
theorem sel_word (x k : Nat) : (∃ p : Nat, p < 64 ∧ sel x k 64 = p ∧ x / 2 ^ p % 2 = 1 ∧ rk x p = k) ∨ (sel x k 64 = -1 ∧ rk x 64 ≤ k) := by
  by_cases h : k < rk x 64
  · obtain ⟨p, hp, h1, h2⟩ := sel_in x 64 k h
    exact .inl ⟨p, hp, sel_of x k 64 p hp h1 (by omega), h1, h2⟩
  · exact .inr ⟨sel_outN x k 64 (.inr (by omega)), by omega⟩

theorem wd_low (U q p : Nat) (hp : p < 64) : wd U q / 2 ^ p % 2 = 1 ↔ U / 2 ^ (64 * q + p) % 2 = 1 := by
  rw [bit_one, bit_one, wd_bit]; simp [hp]

/-- The one is found in the word q. -/
theorem sel_found (U q p k n : Nat) (hp : p < 64) (h1 : wd U q / 2 ^ p % 2 = 1) (h2 : rk (wd U q) p + rk U (64 * q) = k) (hn : k < rk U n) : sel U k n = ((64 * q + p : Nat) : Int) := by
  have e : rk U (64 * q + p) = k := by rw [rk_low U q p (by omega)]; omega
  refine sel_of U k n _ ?_ ((wd_low U q p hp).1 h1) (by omega)
  rcases Nat.lt_or_ge (64 * q + p) n with h | h
  · exact h
  · have := rk_mono U h; omega

/-- The number that is turned in all its K words. -/
def flipV (V K : Nat) : Nat := 2 ^ (64 * K) - (V + 1)
theorem flip_lt (V K : Nat) : flipV V K < 2 ^ (64 * K) := by
  unfold flipV; have := Nat.two_pow_pos (64 * K); omega
theorem flip_bit {V K : Nat} (h : V < 2 ^ (64 * K)) (p : Nat) : (flipV V K).testBit p = (decide (p < 64 * K) && !V.testBit p) := by
  unfold flipV; exact Nat.testBit_two_pow_sub_succ h p
theorem flip_wd {V K i : Nat} (h : V < 2 ^ (64 * K)) (hi : i < K) : wd V i ^^^ 18446744073709551615 = wd (flipV V K) i := by
  apply Nat.eq_of_testBit_eq
  intro j
  rw [Nat.testBit_xor, wd_bit, wd_bit, flip_bit h, show (18446744073709551615 : Nat) = 2 ^ 64 - 1 by decide, Nat.testBit_two_pow_sub_one]
  by_cases hj : j < 64
  · simp [hj, show 64 * i + j < 64 * K by omega]
  · simp [hj]
theorem flip_rk {V K : Nat} (h : V < 2 ^ (64 * K)) (j : Nat) (hj : j ≤ 64 * K) : rk (flipV V K) j = j - rk V j := by
  induction j with
  | zero => simp [rk]
  | succ j ih =>
    have hl := rk_le V j
    rw [rk_step, rk_step V, ih (by omega), flip_bit h]
    by_cases hb : V.testBit j = true
    · simp [hb]
    · simp [hb, show j < 64 * K by omega]; omega

/-- The places of the ones, by their numbers. -/
def pl (U n k : Nat) : Nat := (sel U k n).toNat
theorem pl_step (U n i : Nat) (hi : i < n) (hb : U.testBit i = true) : pl U n (rk U i) = i := by
  unfold pl; rw [sel_of U _ n i hi (bit_one.2 hb) rfl]; rfl
theorem pl_at (U n k : Nat) (h : k < rk U n) : ((pl U n k : Nat) : Int) = sel U k n := by
  obtain ⟨p, hp, h1, h2⟩ := sel_in U n k h
  have := sel_of U k n p hp h1 (by omega)
  unfold pl; rw [this]; rfl
theorem pl_lt (U n k : Nat) (h : k < rk U n) : pl U n k < n := by
  obtain ⟨p, hp, h1, h2⟩ := sel_in U n k h
  have := sel_of U k n p hp h1 (by omega)
  unfold pl; rw [this]; exact hp

/-- How many there are ahead of the mark m. -/
def ah (U n m : Nat) : Nat := rk U (min (512 * m) n)
theorem ah_mono (U n : Nat) {a b : Nat} (h : a ≤ b) : ah U n a ≤ ah U n b := rk_mono U (by omega)
theorem ah_last (U n : Nat) : ah U n (nm n) = rk U n := mk_last U n
theorem ah_first (U n : Nat) : ah U n 0 = 0 := by simp [ah, rk]
theorem ah_in (U n s : Nat) (h : s < nm n) : ah U n s = rk U (64 * (8 * s)) := by
  have := mk_below U n s h
  rw [show 64 * (8 * s) = 512 * s by omega]; exact this
theorem ah_le (U n m : Nat) : ah U n m ≤ n := Nat.le_trans (rk_le _ _) (by omega)

end Go.Proofs.YtbjgbigalfhnjaaGreatDoor

namespace Go.Proofs.YtbjgbigalfhnjaaGreatDoor
open Go.RowKit

/-- The row of the first k numbers, of d bits each. -/
def packV (d : Nat) (f : Nat → Nat) : Nat → Nat
  | 0 => 0
  | k + 1 => cat (packV d f k) (d * k) (f k)

theorem packV_lt (d : Nat) (f : Nat → Nat) (k : Nat) (h : ∀ j, j < k → f j < 2 ^ d) : packV d f k < 2 ^ (d * k) := by
  induction k with
  | zero => simp [packV]
  | succ k ih =>
    rw [packV, Nat.mul_succ]
    exact cat_lt (ih fun j hj => h j (by omega)) (h k (by omega))

theorem packV_congr (d : Nat) {f g : Nat → Nat} (k : Nat) (h : ∀ j, j < k → f j = g j) : packV d f k = packV d g k := by
  induction k with
  | zero => rfl
  | succ k ih => rw [packV, packV, ih fun j hj => h j (by omega), h k (by omega)]

theorem packV_cut (d : Nat) (f : Nat → Nat) (k i : Nat) (h : ∀ j, j < k → f j < 2 ^ d) (hi : i < k) : packV d f k / 2 ^ (d * i) % 2 ^ d = f i := by
  induction k with
  | zero => omega
  | succ k ih =>
    rw [packV, cat]
    by_cases hk : i = k
    · subst hk
      rw [Nat.mul_add_div (Nat.two_pow_pos _), Nat.div_eq_of_lt (packV_lt d f i fun j hj => h j (by omega)), Nat.add_zero, Nat.mod_eq_of_lt (h i (by omega))]
    · have hik : i < k := by omega
      obtain ⟨t, rfl⟩ : ∃ t, k = i + 1 + t := ⟨k - (i + 1), by omega⟩
      have e : 2 ^ (d * (i + 1 + t)) * f (i + 1 + t) = 2 ^ (d * i) * (2 ^ d * (2 ^ (d * t) * f (i + 1 + t))) := by
        rw [← Nat.mul_assoc, ← Nat.mul_assoc, ← Nat.pow_add, ← Nat.pow_add]
        congr 2
        rw [Nat.mul_add, Nat.mul_add, Nat.mul_one]
      rw [e, Nat.mul_add_div (Nat.two_pow_pos _), Nat.mul_add_mod]
      exact ih (fun j hj => h j (by omega)) hik

theorem packV_of (d W k : Nat) : packV d (fun i => W / 2 ^ (d * i) % 2 ^ d) k = W % 2 ^ (d * k) := by
  induction k with
  | zero => simp [packV, Nat.mod_one]
  | succ k ih => rw [packV, ih, cat, Nat.mul_succ, Nat.pow_add, Nat.mod_mul, Nat.add_comm]

/-- The least width of the first k numbers. -/
def wid (f : Nat → Nat) : Nat → Nat
  | 0 => 0
  | k + 1 => max (wid f k) (Lib.bitLen (f k))

theorem wid_le (f : Nat → Nat) (k d : Nat) : wid f k ≤ d ↔ ∀ j, j < k → Lib.bitLen (f j) ≤ d := by
  induction k with
  | zero => simp [wid]
  | succ k ih =>
    rw [wid, Nat.max_le, ih]
    constructor
    · rintro ⟨h1, h2⟩ j hj
      rcases (show j < k ∨ j = k by omega) with h | rfl
      · exact h1 j h
      · exact h2
    · intro h
      exact ⟨fun j hj => h j (by omega), h k (by omega)⟩

theorem bitLen_le64 (x : Nat) (h : x < 18446744073709551616) : Lib.bitLen x ≤ 64 := Lib.bitLen_le x 64 (by decide) h
theorem wid_le64 (f : Nat → Nat) (k : Nat) (h : ∀ j, j < k → f j < 18446744073709551616) : wid f k ≤ 64 := (wid_le f k 64).2 fun j hj => bitLen_le64 _ (h j hj)
theorem fits (f : Nat → Nat) (k d : Nat) (hf : ∀ j, j < k → f j < 18446744073709551616) (h : wid f k ≤ d) : ∀ j, j < k → f j < 2 ^ d :=
  fun j hj => width_lt _ _ (hf j hj) ((wid_le f k d).1 h j hj)

/-- The i-th number of n numbers of d bits. -/
def atV (V d n : Nat) (i : Int) : Nat := if 0 ≤ i ∧ i < n then V / 2 ^ (d * i.toNat) % 2 ^ d else 0
theorem atV_pack (d : Nat) (f : Nat → Nat) (k i : Nat) (h : ∀ j, j < k → f j < 2 ^ d) (hi : i < k) : atV (packV d f k) d k i = f i := by
  unfold atV
  rw [if_pos ⟨by omega, by omega⟩, Int.toNat_natCast, packV_cut d f k i h hi]
theorem atV_out (V d n : Nat) (i : Int) (h : ¬ (0 ≤ i ∧ i < n)) : atV V d n i = 0 := if_neg h
theorem atV_lt (V d n : Nat) (i : Int) (hd : d ≤ 64) : atV V d n i < 18446744073709551616 := by
  unfold atV
  split
  · exact mod_lt64 _ _ hd
  · decide

end Go.Proofs.YtbjgbigalfhnjaaGreatDoor
