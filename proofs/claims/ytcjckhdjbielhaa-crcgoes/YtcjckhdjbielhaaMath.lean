/-
  Plain facts on words of 64 bits: how many ones are below a bit, where the k-th one is, what is cut out: no Go in sight.
-/
import Derived.KernelRfl
namespace Go.Proofs.Ytcjckhdjbielhaa

/-- How many ones there are among the lowest i bits of x. -/
def rk (x : Nat) : Nat → Nat
  | 0 => 0
  | i + 1 => rk x i + x / 2 ^ i % 2

theorem rk_le (x i : Nat) : rk x i ≤ i := by
  induction i with
  | zero => simp [rk]
  | succ i ih => simp only [rk]; omega

theorem rk_add (x a i : Nat) : rk x (a + i) = rk x a + rk (x / 2 ^ a) i := by
  induction i with
  | zero => simp [rk]
  | succ i ih =>
    rw [← Nat.add_assoc, rk, ih, rk, Nat.div_div_eq_div_mul, ← Nat.pow_add]
    omega

theorem bit_mod (x i j : Nat) (h : i < j) : x % 2 ^ j / 2 ^ i % 2 = x / 2 ^ i % 2 := by
  rw [← Nat.toNat_testBit, ← Nat.toNat_testBit, Nat.testBit_mod_two_pow]
  simp [h]

theorem rk_mod (x i j : Nat) (h : i ≤ j) : rk (x % 2 ^ j) i = rk x i := by
  induction i with
  | zero => rfl
  | succ i ih => rw [rk, rk, ih (by omega), bit_mod x i j (by omega)]

theorem rk_zero (i : Nat) : rk 0 i = 0 := by
  induction i with
  | zero => rfl
  | succ i ih => simp [rk, ih]

theorem rk_mask (x m : Nat) (h : m ≤ 64) : rk (x &&& (2 ^ m - 1)) 64 = rk x m := by
  rw [Nat.and_two_pow_sub_one_eq_mod]
  have e : 64 = m + (64 - m) := by omega
  have e2 : x % 2 ^ m / 2 ^ m = 0 := Nat.div_eq_of_lt (Nat.mod_lt _ (Nat.two_pow_pos m))
  rw [e, rk_add, rk_mod x m m (Nat.le_refl _), e2, rk_zero, Nat.add_zero]

theorem rk_mono (x : Nat) {i j : Nat} (h : i ≤ j) : rk x i ≤ rk x j := by
  have e : j = i + (j - i) := by omega
  rw [e, rk_add]
  omega

/-! ### Digits in base 256 -/
/-- The number whose digits in base 256 are these, the lowest first. -/
def dig : List Nat → Nat
  | [] => 0
  | b :: r => b + 256 * dig r
/-- n digits of x. -/
def digs : Nat → Nat → List Nat
  | 0, _ => []
  | n + 1, x => x % 256 :: digs n (x / 256)
/-- n digits that are all c. -/
def rep (c : Nat) : Nat → Nat
  | 0 => 0
  | n + 1 => c + 256 * rep c n

theorem dig_digs (n x : Nat) (h : x < 256 ^ n) : dig (digs n x) = x := by
  induction n generalizing x with
  | zero => simp at h; simp [digs, dig, h]
  | succ n ih =>
    rw [digs, dig, ih (x / 256) (by rw [Nat.pow_succ] at h; exact Nat.div_lt_of_lt_mul (by rw [Nat.mul_comm]; exact h))]
    omega

theorem digs_lt (n x : Nat) : ∀ b ∈ digs n x, b < 256 := by
  induction n generalizing x with
  | zero => intro b hb; simp [digs] at hb
  | succ n ih =>
    intro b hb
    simp only [digs, List.mem_cons] at hb
    rcases hb with rfl | hb
    · omega
    · exact ih _ b hb

theorem digs_len (n x : Nat) : (digs n x).length = n := by
  induction n generalizing x with
  | zero => rfl
  | succ n ih => simp [digs, ih]

theorem rk_digs (n x : Nat) : rk x (8 * n) = ((digs n x).map (fun b => rk b 8)).sum := by
  induction n generalizing x with
  | zero => rfl
  | succ n ih =>
    rw [show 8 * (n + 1) = 8 + 8 * n by omega, rk_add, digs, List.map_cons, List.sum_cons, ← ih]
    rw [← rk_mod x 8 8 (Nat.le_refl _)]

theorem and_split (a c h k : Nat) (ha : a < 256) (hc : c < 256) : (a + 256 * h) &&& (c + 256 * k) = (a &&& c) + 256 * (h &&& k) := by
  have e1 : ((a + 256 * h) &&& (c + 256 * k)) % 2 ^ 8 = a &&& c := by
    rw [Nat.and_mod_two_pow, show (a + 256 * h) % 2 ^ 8 = a by omega, show (c + 256 * k) % 2 ^ 8 = c by omega]
  have e2 : ((a + 256 * h) &&& (c + 256 * k)) / 2 ^ 8 = h &&& k := by
    rw [Nat.and_div_two_pow, show (a + 256 * h) / 2 ^ 8 = h by omega, show (c + 256 * k) / 2 ^ 8 = k by omega]
  omega

theorem dig_and (c : Nat) (hc : c < 256) (ds : List Nat) (h : ∀ b ∈ ds, b < 256) : dig ds &&& rep c ds.length = dig (ds.map (fun b => b &&& c)) := by
  induction ds with
  | nil => simp [dig, rep]
  | cons b r ih =>
    rw [dig, List.length_cons, rep, and_split _ _ _ _ (h b (by simp)) hc, ih (fun b hb => h b (by simp [hb]))]
    rfl

theorem low1 : ∀ b : Fin 256, ∀ t : Fin 2, (b.val / 2 + 128 * t.val) &&& 85 = (b.val / 2) &&& 85 := by decide +kernel
theorem low2 : ∀ b : Fin 256, ∀ t : Fin 4, (b.val / 4 + 64 * t.val) &&& 51 = (b.val / 4) &&& 51 := by decide +kernel

theorem dig_half (ds : List Nat) (h : ∀ b ∈ ds, b < 256) : (dig ds / 2) &&& rep 85 ds.length = dig (ds.map (fun b => (b / 2) &&& 85)) := by
  induction ds with
  | nil => simp [dig, rep]
  | cons b r ih =>
    have hb := h b (by simp)
    have e : dig (b :: r) / 2 = (b / 2 + 128 * (dig r % 2)) + 256 * (dig r / 2) := by rw [dig]; omega
    rw [e, List.length_cons, rep, and_split _ _ _ _ (by omega) (by omega), ih (fun b hb => h b (by simp [hb]))]
    have := low1 ⟨b, hb⟩ ⟨dig r % 2, by omega⟩
    simp only at this
    rw [this]
    rfl

theorem dig_quarter (ds : List Nat) (h : ∀ b ∈ ds, b < 256) : (dig ds / 4) &&& rep 51 ds.length = dig (ds.map (fun b => (b / 4) &&& 51)) := by
  induction ds with
  | nil => simp [dig, rep]
  | cons b r ih =>
    have hb := h b (by simp)
    have e : dig (b :: r) / 4 = (b / 4 + 64 * (dig r % 4)) + 256 * (dig r / 4) := by rw [dig]; omega
    rw [e, List.length_cons, rep, and_split _ _ _ _ (by omega) (by omega), ih (fun b hb => h b (by simp [hb]))]
    have := low2 ⟨b, hb⟩ ⟨dig r % 4, by omega⟩
    simp only at this
    rw [this]
    rfl

theorem dig_nibble (ds : List Nat) (h : ∀ b ∈ ds, b % 16 ≤ 4 ∧ b / 16 ≤ 4) : (dig ds / 16 + dig ds) &&& rep 15 ds.length = dig (ds.map (fun b => (b / 16 + b) &&& 15)) := by
  induction ds with
  | nil => simp [dig, rep]
  | cons b r ih =>
    have hb := h b (by simp)
    have hr : dig r % 16 ≤ 4 := by
      cases r with
      | nil => simp [dig]
      | cons c s => have := h c (by simp); rw [dig]; omega
    have e : dig (b :: r) / 16 + dig (b :: r) = (b / 16 + b + 16 * (dig r % 16)) + 256 * (dig r / 16 + dig r) := by rw [dig]; omega
    rw [e, List.length_cons, rep, and_split _ _ _ _ (by omega) (by omega), ih (fun b hb => h b (by simp [hb]))]
    have e2 : (b / 16 + b + 16 * (dig r % 16)) &&& 15 = (b / 16 + b) &&& 15 := by
      rw [show 15 = 2 ^ 4 - 1 from rfl, Nat.and_two_pow_sub_one_eq_mod, Nat.and_two_pow_sub_one_eq_mod]
      omega
    rw [e2]
    rfl

theorem dig_plus (f g : Nat → Nat) (ds : List Nat) : dig (ds.map f) + dig (ds.map g) = dig (ds.map (fun b => f b + g b)) := by
  induction ds with
  | nil => simp [dig]
  | cons b r ih =>
    simp only [List.map_cons, dig]
    omega

def t1 (b : Nat) : Nat := ((b / 2) &&& 85) + (b &&& 85)
def t2 (b : Nat) : Nat := ((b / 4) &&& 51) + (b &&& 51)
def t3 (b : Nat) : Nat := (b / 16 + b) &&& 15
theorem t1_lt : ∀ b : Fin 256, t1 b.val < 256 := by decide +kernel
theorem t2_lt : ∀ b : Fin 256, t2 b.val < 256 ∧ t2 (t1 b.val) % 16 ≤ 4 ∧ t2 (t1 b.val) / 16 ≤ 4 := by decide +kernel
theorem t3_rk : ∀ b : Fin 256, t3 (t2 (t1 b.val)) = rk b.val 8 := by decide +kernel

def s1 (x : Nat) : Nat := ((x / 2) &&& 6148914691236517205) + (x &&& 6148914691236517205)
def s2 (x : Nat) : Nat := ((x / 4) &&& 3689348814741910323) + (x &&& 3689348814741910323)
def s3 (x : Nat) : Nat := (x / 16 + x) &&& 1085102592571150095
theorem rep85 : rep 85 8 = 6148914691236517205 := by decide +kernel
theorem rep51 : rep 51 8 = 3689348814741910323 := by decide +kernel
theorem rep15 : rep 15 8 = 1085102592571150095 := by decide +kernel

theorem s_all (x : Nat) (hx : x < 18446744073709551616) : s3 (s2 (s1 x)) = dig ((digs 8 x).map (fun b => rk b 8)) := by
  have hl : (digs 8 x).length = 8 := digs_len 8 x
  have hd := digs_lt 8 x
  have e1 : s1 x = dig ((digs 8 x).map t1) := by
    unfold s1
    have q1 := dig_half _ hd
    have q2 := dig_and 85 (by omega) _ hd
    rw [hl, rep85, dig_digs 8 x hx] at q1 q2
    rw [q1, q2, dig_plus]
    rfl
  have hd1 : ∀ b ∈ (digs 8 x).map t1, b < 256 := by
    intro b hb
    obtain ⟨c, hc, rfl⟩ := List.mem_map.1 hb
    exact t1_lt ⟨c, hd c hc⟩
  have hl1 : ((digs 8 x).map t1).length = 8 := by simp [hl]
  have e2 : s2 (s1 x) = dig (((digs 8 x).map t1).map t2) := by
    rw [e1]
    unfold s2
    have q1 := dig_quarter _ hd1
    have q2 := dig_and 51 (by omega) _ hd1
    rw [hl1, rep51] at q1 q2
    rw [q1, q2, dig_plus]
    rfl
  have hd2 : ∀ b ∈ ((digs 8 x).map t1).map t2, b % 16 ≤ 4 ∧ b / 16 ≤ 4 := by
    intro b hb
    obtain ⟨c, hc, rfl⟩ := List.mem_map.1 hb
    obtain ⟨d, hd', rfl⟩ := List.mem_map.1 hc
    exact (t2_lt ⟨d, hd d hd'⟩).2
  have hl2 : (((digs 8 x).map t1).map t2).length = 8 := by simp [hl]
  rw [e2]
  unfold s3
  have q3 := dig_nibble _ hd2
  rw [hl2, rep15] at q3
  rw [q3, List.map_map, List.map_map]
  congr 1
  refine List.map_congr_left ?_
  intro b hb
  exact t3_rk ⟨b, hd b hb⟩

theorem div_low (A B m : Nat) (h : A < m) : (A + m * B) / m = B := by
  rw [Nat.add_mul_div_left _ _ (by omega), Nat.div_eq_of_lt h, Nat.zero_add]

/-- What the last steps make of eight digits none of which is above 8. -/
theorem fold8 (a b c d e f g h : Nat) (ha : a ≤ 8) (hb : b ≤ 8) (hc : c ≤ 8) (hd : d ≤ 8) (he : e ≤ 8) (hf : f ≤ 8) (hg : g ≤ 8) (hh : h ≤ 8) :
    ∃ y4 y5 y6 : Nat, let y := dig [a, b, c, d, e, f, g, h]
      y < 18446744073709551616 ∧ y + y / 256 = y4 ∧ y4 < 18446744073709551616 ∧ y4 + y4 / 65536 = y5 ∧ y5 < 18446744073709551616 ∧ y5 + y5 / 4294967296 = y6 ∧ y6 < 9223372036854775808 ∧ y6 % 128 = a + b + c + d + e + f + g + h := by
  have e0 : dig [a, b, c, d, e, f, g, h] = a + 256 * (b + 256 * (c + 256 * (d + 256 * (e + 256 * (f + 256 * (g + 256 * h)))))) := by simp [dig]
  generalize dig [a, b, c, d, e, f, g, h] = y at *
  have e4 : y / 256 = b + 256 * (c + 256 * (d + 256 * (e + 256 * (f + 256 * (g + 256 * h))))) := by rw [e0]; exact div_low _ _ _ (by omega)
  have e5 : y + y / 256 = ((a + b) + 256 * (b + c)) + 65536 * ((c + d) + 256 * ((d + e) + 256 * ((e + f) + 256 * ((f + g) + 256 * ((g + h) + 256 * h))))) := by rw [e4, e0]; clear e0 e4; omega
  have e6 : (y + y / 256) / 65536 = (c + d) + 256 * ((d + e) + 256 * ((e + f) + 256 * ((f + g) + 256 * ((g + h) + 256 * h)))) := by rw [e5]; exact div_low _ _ _ (by clear e0 e4 e5; omega)
  have e7 : (y + y / 256) + (y + y / 256) / 65536 = ((a + b + c + d) + 256 * (b + c + d + e) + 65536 * ((c + d + e + f) + 256 * (d + e + f + g))) + 4294967296 * ((e + f + g + h) + 256 * (f + g + h) + 65536 * (g + h) + 16777216 * h) := by rw [e6, e5]; clear e0 e4 e5 e6; omega
  have e8 : ((y + y / 256) + (y + y / 256) / 65536) / 4294967296 = (e + f + g + h) + 256 * (f + g + h) + 65536 * (g + h) + 16777216 * h := by rw [e7]; exact div_low _ _ _ (by clear e0 e4 e5 e6 e7; omega)
  refine ⟨_, _, _, ?_, rfl, ?_, rfl, ?_, rfl, ?_, ?_⟩
  · rw [e0]; clear e0 e4 e5 e6 e7 e8; omega
  · rw [e5]; clear e0 e4 e5 e6 e7 e8; omega
  · rw [e7]; clear e0 e4 e5 e6 e7 e8; omega
  · rw [e8, e7]; clear e0 e4 e5 e6 e7 e8; omega
  · rw [e8, e7]; clear e0 e4 e5 e6 e7 e8; omega

theorem digs8 (x : Nat) : digs 8 x = [x % 256, x / 256 % 256, x / 256 / 256 % 256, x / 256 / 256 / 256 % 256, x / 256 / 256 / 256 / 256 % 256, x / 256 / 256 / 256 / 256 / 256 % 256, x / 256 / 256 / 256 / 256 / 256 / 256 % 256, x / 256 / 256 / 256 / 256 / 256 / 256 / 256 % 256] := rfl

/-- The last steps. -/
theorem s_fold (x : Nat) (hx : x < 18446744073709551616) : ∃ y4 y5 y6 : Nat, let y := s3 (s2 (s1 x))
      y < 18446744073709551616 ∧ y + y / 256 = y4 ∧ y4 < 18446744073709551616 ∧ y4 + y4 / 65536 = y5 ∧ y5 < 18446744073709551616 ∧ y5 + y5 / 4294967296 = y6 ∧ y6 < 9223372036854775808 ∧ y6 % 128 = rk x 64 := by
  rw [s_all x hx, show (64 : Nat) = 8 * 8 from rfl, rk_digs, digs8]
  simp only [List.map_cons, List.map_nil, List.sum_cons, List.sum_nil]
  have L : ∀ b, rk b 8 ≤ 8 := fun b => rk_le b 8
  obtain ⟨y4, y5, y6, h1, h2, h3, h4, h5, h6, h7, h8⟩ := fold8 _ _ _ _ _ _ _ _ (L (x % 256)) (L (x / 256 % 256)) (L (x / 256 / 256 % 256)) (L (x / 256 / 256 / 256 % 256)) (L (x / 256 / 256 / 256 / 256 % 256)) (L (x / 256 / 256 / 256 / 256 / 256 % 256)) (L (x / 256 / 256 / 256 / 256 / 256 / 256 % 256)) (L (x / 256 / 256 / 256 / 256 / 256 / 256 / 256 % 256))
  exact ⟨y4, y5, y6, h1, h2, h3, h4, h5, h6, h7, by rw [h8]; omega⟩

theorem s1_lt (x : Nat) : s1 x < 18446744073709551616 := by
  have h1 : (x / 2) &&& 6148914691236517205 ≤ 6148914691236517205 := Nat.and_le_right
  have h2 : x &&& 6148914691236517205 ≤ 6148914691236517205 := Nat.and_le_right
  unfold s1; omega
theorem s2_lt (x : Nat) : s2 x < 9223372036854775808 := by
  have h1 : (x / 4) &&& 3689348814741910323 ≤ 3689348814741910323 := Nat.and_le_right
  have h2 : x &&& 3689348814741910323 ≤ 3689348814741910323 := Nat.and_le_right
  unfold s2; omega

/-! ### The number of the k-th one -/
/-- The number below n of the one that has just k ones below it; -1 if there is none. -/
def sel (x : Nat) (k : Int) : Nat → Int
  | 0 => -1
  | n + 1 => if x / 2 ^ n % 2 = 1 ∧ (rk x n : Int) = k then (n : Int) else sel x k n

theorem sel_of (x : Nat) (k : Int) (n p : Nat) (hp : p < n) (h1 : x / 2 ^ p % 2 = 1) (h2 : (rk x p : Int) = k) : sel x k n = p := by
  induction n with
  | zero => omega
  | succ n ih =>
    rw [sel]
    by_cases hpn : p = n
    · subst hpn; rw [if_pos ⟨h1, h2⟩]
    · rw [if_neg, ih (by omega)]
      rintro ⟨_, h4⟩
      have := rk_mono x (show p + 1 ≤ n by omega)
      rw [rk] at this
      omega

theorem sel_none (x : Nat) (k : Int) (n : Nat) (h : ∀ p, p < n → x / 2 ^ p % 2 = 1 → (rk x p : Int) ≠ k) : sel x k n = -1 := by
  induction n with
  | zero => rfl
  | succ n ih =>
    rw [sel, if_neg, ih (fun p hp => h p (by omega))]
    rintro ⟨h3, h4⟩
    exact h n (by omega) h3 h4

theorem sel_cases (x : Nat) (k : Int) (n : Nat) : sel x k n = -1 ∨ ∃ p : Nat, p < n ∧ sel x k n = p ∧ x / 2 ^ p % 2 = 1 ∧ (rk x p : Int) = k := by
  induction n with
  | zero => exact Or.inl rfl
  | succ n ih =>
    rw [sel]
    by_cases h : x / 2 ^ n % 2 = 1 ∧ (rk x n : Int) = k
    · rw [if_pos h]; exact Or.inr ⟨n, by omega, rfl, h.1, h.2⟩
    · rw [if_neg h]
      rcases ih with h' | ⟨p, hp, h1, h2, h3⟩
      · exact Or.inl h'
      · exact Or.inr ⟨p, by omega, h1, h2, h3⟩

/-- Outside of the ranks there is none. -/
theorem sel_out (x : Nat) (k : Int) (h : k < 0 ∨ (rk x 64 : Int) ≤ k) : sel x k 64 = -1 := by
  refine sel_none x k 64 fun p hp h1 h2 => ?_
  have := rk_mono x (show p + 1 ≤ 64 by omega)
  rw [rk] at this
  omega

/-! ### What is cut out -/
/-- The word x, moved so that its bit 'at' lies at 0. -/
def sh (x : Nat) (at_ : Int) : Nat := if at_ ≤ -64 ∨ 64 ≤ at_ then 0 else if at_ < 0 then x * 2 ^ (-at_).toNat else x / 2 ^ at_.toNat

theorem mod_succ (y i : Nat) : y % 2 ^ (i + 1) = y % 2 ^ i + 2 ^ i * (y / 2 ^ i % 2) := by
  rw [Nat.pow_succ, Nat.mod_mul]

theorem sh_bit (x : Nat) (hx : x < 18446744073709551616) (at_ : Int) (h1 : -63 ≤ at_) (h2 : at_ < 64) (i : Nat) (hi : i ≤ 63) :
    sh x at_ / 2 ^ i % 2 = 1 ↔ (0 ≤ at_ + i ∧ at_ + i ≤ 63 ∧ x / 2 ^ (at_ + i).toNat % 2 = 1) := by
  unfold sh
  rw [if_neg (by omega)]
  by_cases h0 : at_ < 0
  · rw [if_pos h0]
    obtain ⟨s, hs⟩ := Int.eq_ofNat_of_zero_le (show 0 ≤ -at_ by omega)
    rw [hs]
    simp only [Int.toNat_natCast]
    by_cases hi2 : i < s
    · have e : x * 2 ^ s / 2 ^ i % 2 = 0 := by
        rw [show s = (s - i - 1) + 1 + i by omega, Nat.pow_add, ← Nat.mul_assoc, Nat.mul_div_cancel _ (Nat.two_pow_pos i), Nat.pow_succ, ← Nat.mul_assoc]
        omega
      rw [e]
      constructor
      · intro h; omega
      · intro h; omega
    · have e : x * 2 ^ s / 2 ^ i = x / 2 ^ (i - s) := by
        rw [show i = s + (i - s) by omega, Nat.pow_add, ← Nat.div_div_eq_div_mul, Nat.mul_div_cancel _ (Nat.two_pow_pos s)]
        rw [show s + (i - s) - s = i - s by omega]
      rw [e, show (at_ + i).toNat = i - s by omega]
      constructor
      · intro h; exact ⟨by omega, by omega, h⟩
      · intro h; exact h.2.2
  · rw [if_neg h0]
    obtain ⟨a, ha⟩ := Int.eq_ofNat_of_zero_le (show 0 ≤ at_ by omega)
    subst ha
    simp only [Int.toNat_natCast]
    rw [Nat.div_div_eq_div_mul, ← Nat.pow_add, show ((a : Int) + (i : Int)).toNat = a + i by omega]
    constructor
    · intro h
      refine ⟨by omega, ?_, h⟩
      have hle : ¬ 64 ≤ a + i := by
        intro h64
        have hp := Nat.pow_le_pow_right (n := 2) (by omega) h64
        have : x / 2 ^ (a + i) = 0 := Nat.div_eq_of_lt (by omega)
        omega
      omega
    · intro h; exact h.2.2

theorem sh_out (x : Nat) (at_ : Int) (h : at_ ≤ -64 ∨ 64 ≤ at_) : sh x at_ = 0 := by
  unfold sh; rw [if_pos h]

theorem mod_mod_pow (y a b : Nat) (h : a ≤ b) : y % 2 ^ b % 2 ^ a = y % 2 ^ a :=
  Nat.mod_mod_of_dvd _ (Nat.pow_dvd_pow 2 h)

end Go.Proofs.Ytcjckhdjbielhaa
