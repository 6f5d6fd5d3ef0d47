/-
  Codes, plainly: which bits a code has, what is refused, and what any bits are read as.
-/
import Derived.Test.YtgcjbkcfcklcfaaDoorRefB
namespace Go.Proofs.YtgcjbkcfcklcfaaDoor

theorem cat_cat (V n a l b : Nat) : cat (cat V n a) (n + l) b = cat V n (cat a l b) := by
  unfold cat; rw [Nat.pow_add, Nat.mul_add, Nat.mul_assoc]; omega
theorem cat_zero (V n : Nat) : cat V n 0 = V := by simp [cat]

/-- How many bits x has below its highest one. -/
def top (x : Nat) : Nat := Lib.bitLen x - 1
/-- The error's number of a code that is written. -/
def cdE (kd : Int) (x : Nat) (N : Int) : Int :=
  if kd = 0 then addErr x N else if kd = 1 then (if N < 0 ∨ 4096 < N then 8 else 0) else if kd = 2 then (if x = 0 then 8 else 0) else if N < 0 ∨ 63 < N then 1 else if 4096 < x / 2 ^ N.toNat then 8 else 0
/-- A code's bits. -/
def cdV (kd : Int) (x : Nat) (N : Int) : Nat :=
  if kd = 0 then x else if kd = 1 then 2 ^ N.toNat else if kd = 2 then cat (2 ^ top x) (top x + 1) (x % 2 ^ top x) else cat (2 ^ (x / 2 ^ N.toNat)) (x / 2 ^ N.toNat + 1) (x % 2 ^ N.toNat)
/-- How many bits a code has. -/
def cdL (kd : Int) (x : Nat) (N : Int) : Nat :=
  if kd = 0 then N.toNat else if kd = 1 then N.toNat + 1 else if kd = 2 then top x + 1 + top x else x / 2 ^ N.toNat + 1 + N.toNat
/-- The row behind a code. -/
def wrV (kd : Int) (V n x : Nat) (N : Int) : Nat := if cdE kd x N = 0 then cat V n (cdV kd x N) else V
def wrN (kd : Int) (n x : Nat) (N : Int) : Nat := if cdE kd x N = 0 then n + cdL kd x N else n
/-- A kind, from 0 to 3. -/
def knd (kd : Int) : Int := if kd < 0 ∨ 2 < kd then 3 else kd

theorem knd_ne {kd : Int} : (knd kd = 0 ↔ kd = 0) ∧ (knd kd = 1 ↔ kd = 1) ∧ (knd kd = 2 ↔ kd = 2) := by unfold knd; split <;> omega
theorem cdE_knd (kd : Int) (x : Nat) (N : Int) : cdE (knd kd) x N = cdE kd x N := by simp only [cdE, knd_ne]
theorem cdV_knd (kd : Int) (x : Nat) (N : Int) : cdV (knd kd) x N = cdV kd x N := by simp only [cdV, knd_ne]
theorem cdL_knd (kd : Int) (x : Nat) (N : Int) : cdL (knd kd) x N = cdL kd x N := by simp only [cdL, knd_ne]
theorem wrV_knd (kd : Int) (V n x : Nat) (N : Int) : wrV (knd kd) V n x N = wrV kd V n x N := by simp only [wrV, cdE_knd, cdV_knd]
theorem wrN_knd (kd : Int) (n x : Nat) (N : Int) : wrN (knd kd) n x N = wrN kd n x N := by simp only [wrN, cdE_knd, cdL_knd]

theorem top_bounds (x : Nat) (hx : x < 18446744073709551616) (h0 : x ≠ 0) : top x ≤ 63 ∧ 2 ^ top x ≤ x ∧ x < 2 ^ (top x + 1) ∧ Lib.bitLen x = top x + 1 := by
  obtain ⟨h1, h2, h3⟩ := Lib.bitLenAux_bounds 64 x hx h0
  have h4 : Lib.bitLen x = Lib.bitLenAux 64 x := rfl
  have hp : 1 ≤ Lib.bitLen x := by rw [h4]; exact h1
  have e : top x + 1 = Lib.bitLen x := by unfold top; omega
  have h64 : Lib.bitLen x ≤ 64 := by
    by_cases h : Lib.bitLen x ≤ 64
    · exact h
    · exfalso
      have h5 : 2 ^ 64 ≤ 2 ^ top x := Nat.pow_le_pow_right (by decide) (by omega)
      have h6 : 2 ^ top x ≤ x := h2
      omega
  exact ⟨by omega, h2, by rw [e]; exact h3, e.symm⟩

theorem cd_fit (kd : Int) (x : Nat) (N : Int) (hx : x < 18446744073709551616) (h : cdE kd x N = 0) : cdV kd x N < 2 ^ cdL kd x N ∧ cdL kd x N ≤ 4160 := by
  unfold cdE at h
  unfold cdV cdL
  by_cases h0 : kd = 0
  · simp only [h0, if_true] at h ⊢
    unfold addErr at h
    split at h
    · simp at h
    · split at h
      · simp at h
      · exact ⟨width_lt x _ hx (by omega), by omega⟩
  · simp only [h0, if_false] at h ⊢
    by_cases h1 : kd = 1
    · simp only [h1, if_true] at h ⊢
      split at h
      · simp at h
      · exact ⟨Nat.pow_lt_pow_right (by decide) (by omega), by omega⟩
    · simp only [h1, if_false] at h ⊢
      by_cases h2 : kd = 2
      · simp only [h2, if_true] at h ⊢
        split at h
        · simp at h
        · rename_i hx0
          have := top_bounds x hx hx0
          exact ⟨cat_lt (Nat.pow_lt_pow_right (by decide) (by omega)) (Nat.mod_lt _ (Nat.two_pow_pos _)), by omega⟩
      · simp only [h2, if_false] at h ⊢
        split at h
        · simp at h
        · split at h
          · simp at h
          · exact ⟨cat_lt (Nat.pow_lt_pow_right (by decide) (by omega)) (Nat.mod_lt _ (Nat.two_pow_pos _)), by omega⟩

theorem wr_fit (kd : Int) (V n x : Nat) (N : Int) (hx : x < 18446744073709551616) (hV : V < 2 ^ n) : wrV kd V n x N < 2 ^ wrN kd n x N := by
  unfold wrV wrN
  split
  · rename_i h
    exact cat_lt hV (cd_fit kd x N hx h).1
  · exact hV
theorem wr_len (kd : Int) (n x : Nat) (N : Int) (hx : x < 18446744073709551616) : wrN kd n x N ≤ n + 4160 ∧ n ≤ wrN kd n x N := by
  unfold wrN
  split
  · rename_i h
    have := (cd_fit kd x N hx h).2
    omega
  · omega

/-! ### Reading -/
/-- The first one of U, below m. -/
theorem first_one (U m : Nat) : (nextV U 0 m = -1 ∧ ∀ p, p < m → U.testBit p = false) ∨ ∃ p, p < m ∧ nextV U 0 m = p ∧ U.testBit p = true ∧ ∀ j, j < p → U.testBit j = false := by
  have key : ∀ m, (∀ p, p < m → U.testBit p = false) ∨ ∃ p, p < m ∧ U.testBit p = true ∧ ∀ j, j < p → U.testBit j = false := by
    intro m
    induction m with
    | zero => exact .inl fun p h => by omega
    | succ m ih =>
      rcases ih with h | ⟨p, h1, h2⟩
      · cases hb : U.testBit m with
        | true => exact .inr ⟨m, by omega, hb, h⟩
        | false =>
          refine .inl fun p hp => ?_
          rcases (show p < m ∨ p = m by omega) with h1 | rfl
          · exact h p h1
          · exact hb
      · exact .inr ⟨p, by omega, h2⟩
  rcases key m with h | ⟨p, h1, h2, h3⟩
  · exact .inl ⟨nextV_none U 0 m fun p hp _ => h p hp, h⟩
  · exact .inr ⟨p, h1, nextV_of U 0 m p h1 (by omega) h2 fun q hq _ => h3 q hq, h2, h3⟩

/-- How many noughts U begins with, up to a limit; an error's number. -/
def nq (U m lim : Nat) : Nat × Nat := if nextV U 0 m = -1 then (0, if lim < m then 3 else 2) else if (lim : Int) < nextV U 0 m then (0, 3) else ((nextV U 0 m).toNat, 0)

theorem nq_found {U m lim k : Nat} (hk : k < m) (hl : k ≤ lim) (hb : U.testBit k = true) (hp : ∀ j, j < k → U.testBit j = false) : nq U m lim = (k, 0) := by
  unfold nq
  rw [nextV_of U 0 m k hk (by omega) hb fun q hq _ => hp q hq, if_neg (by omega), if_neg (by omega)]
  simp
theorem nq_long {U m lim : Nat} (hm : lim < m) (hp : ∀ j, j ≤ lim → U.testBit j = false) : nq U m lim = (0, 3) := by
  unfold nq
  rcases first_one U m with ⟨h, _⟩ | ⟨p, hpm, h, hb, _⟩
  · rw [h]; simp [hm]
  · have : lim < p := by
      by_cases h2 : p ≤ lim
      · rw [hp p h2] at hb; simp at hb
      · omega
    rw [h, if_neg (by omega), if_pos (by omega)]
theorem nq_short {U m lim : Nat} (hm : m ≤ lim) (hp : ∀ j, j < m → U.testBit j = false) : nq U m lim = (0, 2) := by
  unfold nq
  rw [nextV_none U 0 m fun q hq _ => hp q hq]
  have : ¬ lim < m := by omega
  simp [this]
theorem nq_ok {U m lim q : Nat} (h : nq U m lim = (q, 0)) : q ≤ lim ∧ q < m := by
  unfold nq at h
  rcases first_one U m with ⟨h1, _⟩ | ⟨p, hpm, h1, _, _⟩
  · rw [h1] at h
    split at h
    · split at h <;> simp at h
    · rename_i h2; exact absurd rfl h2
  · rw [h1, if_neg (by omega)] at h
    split at h
    · simp at h
    · simp at h; omega
theorem nq_bad {U m lim q e : Nat} (h : nq U m lim = (q, e)) (he : e ≠ 0) : q = 0 ∧ (e = 2 ∨ e = 3) := by
  unfold nq at h
  split at h
  · split at h <;> simp at h <;> omega
  · split at h
    · simp at h; omega
    · simp at h; omega

/-- The next one of a row, from a place on, by the bits from there on. -/
theorem next_shift (V n a : Nat) (ha : a ≤ n) : (nextV (V / 2 ^ a) 0 (n - a) = -1 ∧ nextV V a n = -1) ∨ ∃ p : Nat, p < n - a ∧ nextV (V / 2 ^ a) 0 (n - a) = p ∧ nextV V a n = ((a + p : Nat) : Int) := by
  have hb : ∀ j, (V / 2 ^ a).testBit j = V.testBit (j + a) := fun j => by rw [Nat.testBit_div_two_pow]
  rcases first_one (V / 2 ^ a) (n - a) with ⟨h, h2⟩ | ⟨p, hp, h, h1, h2⟩
  · refine .inl ⟨h, nextV_none V a n fun q hq hqa => ?_⟩
    have := h2 (q - a) (by omega)
    rwa [hb, show q - a + a = q by omega] at this
  · refine .inr ⟨p, hp, h, nextV_of V a n (a + p) (by omega) (by omega) (by rw [← h1, hb, Nat.add_comm]) fun q hq hqa => ?_⟩
    have := h2 (q - a) (by omega)
    rwa [hb, show q - a + a = q by omega] at this

def rdF (U m : Nat) (N : Int) : Nat × Nat × Nat := if N < 0 ∨ 64 < N then (0, 0, 1) else if (m : Int) < N then (0, 0, 2) else (U % 2 ^ N.toNat, N.toNat, 0)
def rdU (U m : Nat) : Nat × Nat × Nat := if (nq U m 4096).2 = 0 then ((nq U m 4096).1, (nq U m 4096).1 + 1, 0) else (0, 0, (nq U m 4096).2)
def rdG (U m : Nat) : Nat × Nat × Nat := if (nq U m 63).2 = 0 then (if m < (nq U m 63).1 + 1 + (nq U m 63).1 then (0, 0, 2) else (2 ^ (nq U m 63).1 + U / 2 ^ ((nq U m 63).1 + 1) % 2 ^ (nq U m 63).1, (nq U m 63).1 + 1 + (nq U m 63).1, 0)) else (0, 0, (nq U m 63).2)
def rdR (U m : Nat) (N : Int) : Nat × Nat × Nat := if N < 0 ∨ 63 < N then (0, 0, 1) else if (nq U m 4096).2 = 0 then (if 64 < Lib.bitLen (nq U m 4096).1 + N.toNat then (0, 0, 3) else if m < (nq U m 4096).1 + 1 + N.toNat then (0, 0, 2) else ((nq U m 4096).1 * 2 ^ N.toNat + U / 2 ^ ((nq U m 4096).1 + 1) % 2 ^ N.toNat, (nq U m 4096).1 + 1 + N.toNat, 0)) else (0, 0, (nq U m 4096).2)
/-- What a read of m bits U tells: the number, how many bits it takes, an error's number. -/
def rd (kd : Int) (U m : Nat) (N : Int) : Nat × Nat × Nat := if kd = 0 then rdF U m N else if kd = 1 then rdU U m else if kd = 2 then rdG U m else rdR U m N
theorem rd_knd (kd : Int) (U m : Nat) (N : Int) : rd (knd kd) U m N = rd kd U m N := by simp only [rd, knd_ne]

/-- A code whose bits stand first is read as it was written. -/
theorem rd_back (kd : Int) (x : Nat) (N : Int) (U m : Nat) (hx : x < 18446744073709551616) (h : cdE kd x N = 0) (hU : U % 2 ^ cdL kd x N = cdV kd x N) (hm : cdL kd x N ≤ m) :
    rd kd U m N = (if kd = 1 then N.toNat else x, cdL kd x N, 0) := by
  have unary : ∀ (q l b lim : Nat), q ≤ lim → U % 2 ^ (q + 1 + l) = cat (2 ^ q) (q + 1) b → q < m → nq U m lim = (q, 0) ∧ U / 2 ^ (q + 1) % 2 ^ l = b := by
    intro q l b lim hq hU hqm
    have hlt : 2 ^ q < 2 ^ (q + 1) := Nat.pow_lt_pow_right (by decide) (by omega)
    have bit : ∀ j, j < q + 1 → U.testBit j = decide (q = j) := fun j hj => by
      have h1 : (U % 2 ^ (q + 1 + l)).testBit j = U.testBit j := by rw [Nat.testBit_mod_two_pow]; simp; omega
      rw [← h1, hU, cat_bit b hlt, if_pos hj, Nat.testBit_two_pow]
    refine ⟨nq_found hqm hq (by rw [bit q (by omega)]; simp) fun j hj => by rw [bit j (by omega)]; simp; omega, ?_⟩
    rw [← Nat.mod_mul_right_div_self, ← Nat.pow_add, hU]
    unfold cat
    rw [Nat.add_comm, Nat.add_mul_div_left _ _ (Nat.two_pow_pos _), Nat.div_eq_of_lt hlt, Nat.zero_add]
  have hfit := (cd_fit kd x N hx h).2
  unfold cdE at h
  unfold cdV at hU
  unfold cdL at hU hm ⊢
  unfold rd
  by_cases h0 : kd = 0
  · have h01 : ¬ (0 : Int) = 1 := by decide
    subst h0
    simp only [if_true] at h hU hm ⊢
    rw [if_neg h01]
    unfold addErr at h
    split at h
    · simp at h
    · rename_i hN
      unfold rdF
      rw [if_neg hN, if_neg (by omega), hU]
  · simp only [h0, if_false] at h hU hm ⊢
    by_cases h1 : kd = 1
    · simp only [h1, if_true] at h hU hm ⊢
      split at h
      · simp at h
      · obtain ⟨hn, _⟩ := unary N.toNat 0 0 4096 (by omega) (by rw [cat_zero, Nat.add_zero]; exact hU) (by omega)
        unfold rdU
        rw [hn]
        simp
    · simp only [h1, if_false] at h hU hm ⊢
      by_cases h2 : kd = 2
      · simp only [h2, if_true] at h hU hm ⊢
        split at h
        · simp at h
        · rename_i hx0
          obtain ⟨t1, t2, t3, _⟩ := top_bounds x hx hx0
          obtain ⟨hn, hl⟩ := unary (top x) (top x) _ 63 t1 hU (by omega)
          unfold rdG
          rw [hn]
          simp only [if_true]
          rw [if_neg (by omega), hl]
          have : x % 2 ^ top x = x - 2 ^ top x := by
            have h3 : x - 2 ^ top x < 2 ^ top x := by rw [Nat.pow_succ] at t3; omega
            rw [Nat.mod_eq_sub_mod t2, Nat.mod_eq_of_lt h3]
          rw [this, show 2 ^ top x + (x - 2 ^ top x) = x by omega]
      · simp only [h2, if_false] at h hU hm ⊢
        split at h
        · simp at h
        · rename_i hN
          split at h
          · simp at h
          · rename_i hq
            obtain ⟨hn, hl⟩ := unary (x / 2 ^ N.toNat) N.toNat _ 4096 (by omega) hU (by omega)
            unfold rdR
            rw [if_neg hN, hn]
            simp only [if_true]
            have hw : ¬ 64 < Lib.bitLen (x / 2 ^ N.toNat) + N.toNat := by
              by_cases hz : x / 2 ^ N.toNat = 0
              · rw [hz, show Lib.bitLen 0 = 0 from rfl]; omega
              · obtain ⟨t1, t2, t3, t4⟩ := top_bounds (x / 2 ^ N.toNat) (Nat.lt_of_le_of_lt (Nat.div_le_self _ _) hx) hz
                intro hlt
                have h3 : 2 ^ 64 ≤ 2 ^ (top (x / 2 ^ N.toNat) + N.toNat) := Nat.pow_le_pow_right (by decide) (by omega)
                rw [Nat.pow_add] at h3
                have h4 : 2 ^ top (x / 2 ^ N.toNat) * 2 ^ N.toNat ≤ x / 2 ^ N.toNat * 2 ^ N.toNat := Nat.mul_le_mul_right _ t2
                have h5 := Nat.div_mul_le_self x (2 ^ N.toNat)
                omega
            rw [if_neg hw, if_neg (by omega), hl]
            have := Nat.div_add_mod x (2 ^ N.toNat)
            rw [show x / 2 ^ N.toNat * 2 ^ N.toNat + x % 2 ^ N.toNat = x by rw [Nat.mul_comm]; exact this]

/-- The row behind k codes, and how many bits it has. -/
def accW (cK : Nat → Int) (cX : Nat → Nat) (cN : Nat → Int) : Nat → Nat × Nat
  | 0 => (0, 0)
  | k + 1 => (wrV (cK k) (accW cK cX cN k).1 (accW cK cX cN k).2 (cX k) (cN k), wrN (cK k) (accW cK cX cN k).2 (cX k) (cN k))

theorem accW_fit (cK : Nat → Int) (cX : Nat → Nat) (cN : Nat → Int) (hX : ∀ k, cX k < 18446744073709551616) (k : Nat) : (accW cK cX cN k).1 < 2 ^ (accW cK cX cN k).2 ∧ (accW cK cX cN k).2 ≤ 4160 * k := by
  induction k with
  | zero => exact ⟨by simp [accW], by simp [accW]⟩
  | succ k ih =>
    refine ⟨wr_fit _ _ _ _ _ (hX k) ih.1, ?_⟩
    have := (wr_len (cK k) (accW cK cX cN k).2 (cX k) (cN k) (hX k)).1
    simp only [accW]
    omega

/-- Of codes that are all written: what stands behind the first k of them. -/
theorem accW_behind (cK : Nat → Int) (cX : Nat → Nat) (cN : Nat → Int) (hX : ∀ k, cX k < 18446744073709551616) (K : Nat) (hE : ∀ k, k < K → cdE (cK k) (cX k) (cN k) = 0) (k : Nat) (hk : k < K) :
    (accW cK cX cN k).2 + cdL (cK k) (cX k) (cN k) ≤ (accW cK cX cN K).2 ∧ (accW cK cX cN (k + 1)).2 = (accW cK cX cN k).2 + cdL (cK k) (cX k) (cN k) ∧
    ((accW cK cX cN K).1 / 2 ^ (accW cK cX cN k).2) % 2 ^ cdL (cK k) (cX k) (cN k) = cdV (cK k) (cX k) (cN k) := by
  have step : ∀ j, j < K → accW cK cX cN (j + 1) = (cat (accW cK cX cN j).1 (accW cK cX cN j).2 (cdV (cK j) (cX j) (cN j)), (accW cK cX cN j).2 + cdL (cK j) (cX j) (cN j)) := fun j hj => by
    simp only [accW, wrV, wrN, hE j hj, if_true]
  have pre : ∀ d, k + 1 + d ≤ K → (accW cK cX cN (k + 1)).2 ≤ (accW cK cX cN (k + 1 + d)).2 ∧ (accW cK cX cN (k + 1 + d)).1 % 2 ^ (accW cK cX cN (k + 1)).2 = (accW cK cX cN (k + 1)).1 := by
    intro d
    induction d with
    | zero => intro _; exact ⟨Nat.le_refl _, Nat.mod_eq_of_lt (accW_fit cK cX cN hX (k + 1)).1⟩
    | succ d ih =>
      intro hd
      obtain ⟨h1, h2⟩ := ih (by omega)
      rw [show k + 1 + (d + 1) = (k + 1 + d) + 1 by omega, step (k + 1 + d) (by omega)]
      refine ⟨by simp only; omega, ?_⟩
      obtain ⟨t, ht⟩ : ∃ t, (accW cK cX cN (k + 1 + d)).2 = (accW cK cX cN (k + 1)).2 + t := ⟨_, (Nat.add_sub_of_le h1).symm⟩
      simp only [cat]
      rw [ht, Nat.pow_add, Nat.mul_assoc, Nat.mul_add_mod, h2]
  obtain ⟨h1, h2⟩ := pre (K - (k + 1)) (by omega)
  rw [show k + 1 + (K - (k + 1)) = K by omega] at h1 h2
  have hs := step k hk
  rw [hs] at h1 h2
  refine ⟨h1, by rw [hs], ?_⟩
  simp only at h2
  rw [← Nat.mod_mul_right_div_self, ← Nat.pow_add, h2]
  unfold cat
  rw [Nat.add_comm, Nat.add_mul_div_left _ _ (Nat.two_pow_pos _), Nat.div_eq_of_lt (accW_fit cK cX cN hX k).1, Nat.zero_add]

end Go.Proofs.YtgcjbkcfcklcfaaDoor
