/-
  Numbers that do not fall, plainly: the low width, the row of the high part and where its ones and noughts stand, how many numbers are below another one.
  rankdir's Zeros and Marks, and the document's own answers for it: Rank, Marks, Ints.
  How rows of some length come about: the document's Row, the law's Row, Bits and Small.
-/
import Derived.Test.YtbjgbigalfhnjaaGreatDoorSet06
import Derived.Test.YtbjgbigalfhnjaaGreatDoorSet07
import Derived.StillTailTactics
namespace Go.Proofs.YtbjgbigalfhnjaaGreatDoor

/-- The first n numbers do not fall, and none is above 2^40. -/
structure Climbs (f : Nat → Nat) (n : Nat) : Prop where
  top : ∀ i, i < n → f i ≤ 1099511627776
  up : ∀ i, i + 1 < n → f i ≤ f (i + 1)

theorem Climbs.mono {f : Nat → Nat} {n : Nat} (h : Climbs f n) {i j : Nat} (hij : i ≤ j) (hj : j < n) : f i ≤ f j := by
  induction j with
  | zero => obtain rfl : i = 0 := by omega
            exact Nat.le_refl _
  | succ j ih =>
    by_cases e : i = j + 1
    · subst e; exact Nat.le_refl _
    · exact Nat.le_trans (ih (by omega) (by omega)) (h.up j hj)

/-! ### How many are below -/
/-- How many of the first n numbers are below v. -/
def bel (g : Nat → Nat) (v : Nat) : Nat → Nat
  | 0 => 0
  | k + 1 => bel g v k + if g k < v then 1 else 0

theorem bel_le (g : Nat → Nat) (v n : Nat) : bel g v n ≤ n := by
  induction n with
  | zero => simp [bel]
  | succ n ih => rw [bel]; split <;> omega

theorem bel_of (g : Nat → Nat) (v n c : Nat) (hc : c ≤ n) (h1 : ∀ j, j < c → g j < v) (h2 : ∀ j, c ≤ j → j < n → v ≤ g j) : bel g v n = c := by
  induction n generalizing c with
  | zero => obtain rfl : c = 0 := by omega
            rfl
  | succ n ih =>
    rw [bel]
    by_cases hcn : c ≤ n
    · rw [ih c hcn h1 (fun j a b => h2 j a (by omega)), if_neg (by have := h2 n hcn (by omega); omega)]; rfl
    · obtain rfl : c = n + 1 := by omega
      rw [ih n (Nat.le_refl _) (fun j hj => h1 j (by omega)) (fun j a b => by omega), if_pos (h1 n (by omega))]

/-- Numbers that do not fall. -/
def Up (g : Nat → Nat) (n : Nat) : Prop := ∀ i j, i ≤ j → j < n → g i ≤ g j
theorem Climbs.ups {f : Nat → Nat} {n : Nat} (h : Climbs f n) : Up f n := fun _ _ a b => h.mono a b

theorem bel_parts {g : Nat → Nat} {n : Nat} (h : Up g n) (v : Nat) : (∀ j, j < bel g v n → g j < v) ∧ (∀ j, bel g v n ≤ j → j < n → v ≤ g j) := by
  induction n with
  | zero => exact ⟨fun j hj => by simp [bel] at hj, fun j _ hj => by omega⟩
  | succ n ih =>
    obtain ⟨i1, i2⟩ := ih (fun a b c d => h a b c (by omega))
    have hle := bel_le g v n
    rw [bel]
    by_cases hn : g n < v
    · rw [if_pos hn]
      have e : bel g v n = n := by
        rcases Nat.lt_or_ge (bel g v n) n with hlt | hge
        · have := i2 _ (Nat.le_refl _) hlt
          have := h (bel g v n) n (by omega) (by omega)
          omega
        · omega
      rw [e]
      refine ⟨fun j hj => ?_, fun j a b => by omega⟩
      have := h j n (by omega) (by omega)
      omega
    · rw [if_neg hn]
      refine ⟨fun j hj => i1 j (by omega), fun j a b => ?_⟩
      rcases Nat.lt_or_ge j n with hj | hj
      · exact i2 j (by omega) hj
      · obtain rfl : j = n := by omega
        omega

/-! ### The low width -/
/-- The low width of n numbers, the last one being u. -/
def lowN (n u : Nat) : Nat := if n = 0 ∨ u < n then 0 else Lib.bitLen (u / n) - 1
theorem lowN_zero (u : Nat) : lowN 0 u = 0 := by simp [lowN]

theorem bitLen_bounds (x : Nat) (hx : x < 18446744073709551616) (h0 : x ≠ 0) : 1 ≤ Lib.bitLen x ∧ 2 ^ (Lib.bitLen x - 1) ≤ x ∧ x < 2 ^ Lib.bitLen x := Lib.bitLenAux_bounds 64 x hx h0

theorem low_iff (n u w : Nat) (hn : 1 ≤ n) (hu : n ≤ u) (h64 : u < 18446744073709551616) : n ≤ u / 2 ^ w ↔ w ≤ lowN n u := by
  have hq : u / n ≠ 0 := by
    have := (Nat.le_div_iff_mul_le (show 0 < n by omega)).2 (show 1 * n ≤ u by omega)
    omega
  obtain ⟨b1, b2, b3⟩ := bitLen_bounds (u / n) (Nat.lt_of_le_of_lt (Nat.div_le_self _ _) h64) hq
  have e : lowN n u = Lib.bitLen (u / n) - 1 := by unfold lowN; rw [if_neg (by omega)]
  rw [e]
  generalize Lib.bitLen (u / n) = B at *
  have t : n ≤ u / 2 ^ w ↔ 2 ^ w ≤ u / n := by
    rw [Nat.le_div_iff_mul_le (Nat.two_pow_pos w), Nat.le_div_iff_mul_le (show 0 < n by omega), Nat.mul_comm]
  rw [t]
  constructor
  · intro h
    have h2 : 2 ^ w < 2 ^ B := by omega
    have := (Nat.pow_lt_pow_iff_right (a := 2) (by decide)).1 h2
    omega
  · intro h
    exact Nat.le_trans (Nat.pow_le_pow_right (by decide) h) b2

theorem low_small (n u : Nat) (h : u < n) : lowN n u = 0 := by simp [lowN, h]

/-- The high part has fewer than twice as many noughts as there are numbers. -/
theorem low_half (n u : Nat) (hn : 1 ≤ n) (h64 : u < 18446744073709551616) : u / 2 ^ lowN n u < 2 * n := by
  by_cases hu : n ≤ u
  · have h : ¬ n ≤ u / 2 ^ (lowN n u + 1) := fun h => absurd ((low_iff n u (lowN n u + 1) hn hu h64).1 h) (by omega)
    rw [Nat.pow_succ, ← Nat.div_div_eq_div_mul] at h
    omega
  · rw [low_small n u (by omega)]; simp; omega

theorem low_le (n u : Nat) (h : u ≤ 1099511627776) : lowN n u ≤ 40 := by
  unfold lowN
  split
  · omega
  · have := Lib.bitLen_le (u / n) 41 (by decide) (Nat.lt_of_le_of_lt (Nat.div_le_self _ _) (by omega))
    omega
theorem low_le64 (n u : Nat) (h : u < 18446744073709551616) : lowN n u ≤ 64 := by
  unfold lowN
  split
  · omega
  · have := Lib.bitLen_le (u / n) 64 (by decide) (Nat.lt_of_le_of_lt (Nat.div_le_self _ _) h)
    omega

/-! ### The high part -/
/-- The place of the k-th number's one. -/
def hp (f : Nat → Nat) (w k : Nat) : Nat := f k / 2 ^ w + k
/-- The row of the first k numbers' high part. -/
def hV (f : Nat → Nat) (w : Nat) : Nat → Nat
  | 0 => 0
  | k + 1 => cat (hV f w k) (hp f w k) 1
/-- How many bits it has. -/
def hN (f : Nat → Nat) (w : Nat) : Nat → Nat
  | 0 => 0
  | k + 1 => hp f w k + 1

theorem hi_mono {f : Nat → Nat} {n : Nat} (h : Climbs f n) (w : Nat) : Up (fun i => f i / 2 ^ w) n := fun _ _ a b => Nat.div_le_div_right (h.mono a b)
theorem hp_lt {f : Nat → Nat} {n : Nat} (h : Climbs f n) (w : Nat) {i j : Nat} (hij : i < j) (hj : j < n) : hp f w i < hp f w j := by
  have := hi_mono h w i j (by omega) hj
  unfold hp; simp only at this; omega
theorem hp_up {f : Nat → Nat} {n : Nat} (h : Climbs f n) (w : Nat) : Up (hp f w) n := fun i j a b => by
  by_cases e : i = j
  · subst e; exact Nat.le_refl _
  · exact Nat.le_of_lt (hp_lt h w (by omega) b)
theorem hN_le {f : Nat → Nat} {n : Nat} (h : Climbs f n) (w : Nat) {k : Nat} (hk : k < n) : hN f w k ≤ hp f w k := by
  cases k with
  | zero => simp [hN]
  | succ k => exact hp_lt h w (Nat.lt_succ_self k) hk
theorem hV_lt {f : Nat → Nat} {n : Nat} (h : Climbs f n) (w : Nat) {k : Nat} (hk : k ≤ n) : hV f w k < 2 ^ hN f w k := by
  induction k with
  | zero => simp [hV, hN]
  | succ k ih =>
    rw [hV, hN]
    exact cat_lt (Nat.lt_of_lt_of_le (ih (by omega)) (Nat.pow_le_pow_right (by decide) (hN_le h w hk))) (by decide)
theorem hV_below {f : Nat → Nat} {n : Nat} (h : Climbs f n) (w : Nat) {k : Nat} (hk : k < n) : hV f w k < 2 ^ hp f w k :=
  Nat.lt_of_lt_of_le (hV_lt h w (by omega)) (Nat.pow_le_pow_right (by decide) (hN_le h w hk))

theorem rk_one_more {V p : Nat} (h : V < 2 ^ p) (i : Nat) : rk (cat V p 1) i = rk V i + if p < i then 1 else 0 := by
  induction i with
  | zero => simp [rk]
  | succ i ih =>
    rw [rk_step, rk_step V, ih, cat_bit 1 h]
    rcases Nat.lt_trichotomy i p with hi | hi | hi
    · simp [hi, show ¬ p < i by omega, show ¬ p < i + 1 by omega]
    · subst hi
      simp [bit_above h (Nat.le_refl _)]
    · have hb := bit_above h (show p ≤ i by omega)
      have : (1 : Nat).testBit (i - p) = false := Nat.testBit_lt_two_pow (Nat.lt_of_lt_of_le (by decide : 1 < 2 ^ 1) (Nat.pow_le_pow_right (by decide) (by omega)))
      simp [this, hb, hi, show ¬ i < p by omega, show p < i + 1 by omega]

theorem rk_hV {f : Nat → Nat} {n : Nat} (h : Climbs f n) (w i : Nat) {k : Nat} (hk : k ≤ n) : rk (hV f w k) i = bel (hp f w) i k := by
  induction k with
  | zero => simp [hV, bel, rk_zero]
  | succ k ih => rw [hV, rk_one_more (hV_below h w hk), ih (by omega), bel]

theorem rk_at {f : Nat → Nat} {n : Nat} (h : Climbs f n) (w : Nat) {j : Nat} (hj : j < n) : rk (hV f w n) (hp f w j) = j := by
  rw [rk_hV h w _ (Nat.le_refl n)]
  exact bel_of _ _ _ _ (by omega) (fun i hi => hp_lt h w hi hj) (fun i a b => hp_up h w j i a b)
theorem rk_behind {f : Nat → Nat} {n : Nat} (h : Climbs f n) (w : Nat) {j : Nat} (hj : j < n) : rk (hV f w n) (hp f w j + 1) = j + 1 := by
  rw [rk_hV h w _ (Nat.le_refl n)]
  exact bel_of _ _ _ _ (by omega) (fun i hi => by have := hp_up h w i j (by omega) hj; omega) (fun i a b => hp_lt h w (by omega) b)
theorem hp_bit {f : Nat → Nat} {n : Nat} (h : Climbs f n) (w : Nat) {j : Nat} (hj : j < n) : (hV f w n).testBit (hp f w j) = true := by
  have h1 := rk_step (hV f w n) (hp f w j)
  rw [rk_at h w hj, rk_behind h w hj] at h1
  by_cases hb : (hV f w n).testBit (hp f w j) = true
  · exact hb
  · rw [if_neg hb] at h1; omega
theorem hp_end {f : Nat → Nat} {n : Nat} (h : Climbs f n) (w : Nat) {j : Nat} (hj : j < n) : hp f w j < hN f w n := by
  cases n with
  | zero => omega
  | succ n => have := hp_up h w j n (by omega) (by omega); rw [hN]; omega
theorem rk_all {f : Nat → Nat} {n : Nat} (h : Climbs f n) (w : Nat) : rk (hV f w n) (hN f w n) = n := by
  cases n with
  | zero => simp [hN, rk]
  | succ n => exact rk_behind h w (Nat.lt_succ_self n)

/-- The place of the i-th one. -/
theorem sel_hp {f : Nat → Nat} {n : Nat} (h : Climbs f n) (w : Nat) {j : Nat} (hj : j < n) : sel (hV f w n) (j : Int) (hN f w n) = (hp f w j : Nat) :=
  sel_of _ _ _ _ (hp_end h w hj) (bit_one.2 (hp_bit h w hj)) (by rw [rk_at h w hj])
theorem sel_hp_out {f : Nat → Nat} {n : Nat} (h : Climbs f n) (w : Nat) (j : Int) (hj : ¬ (0 ≤ j ∧ j < n)) : sel (hV f w n) j (hN f w n) = -1 :=
  sel_outN _ _ _ (by rw [rk_all h w]; omega)
theorem pl_hp {f : Nat → Nat} {n : Nat} (h : Climbs f n) (w : Nat) {j : Nat} (hj : j < n) : pl (hV f w n) (hN f w n) j = hp f w j := by
  unfold pl; rw [sel_hp h w hj]; rfl

/-- The nought with which the part above the low bits becomes z + 1. -/
theorem sel_nought {f : Nat → Nat} {n : Nat} (h : Climbs f n) (w z c : Nat) (hc : bel (fun i => f i / 2 ^ w) (z + 1) n = c) :
    sel (flipV (hV f w n) (nw (hN f w n))) (z : Int) (hN f w n) = if c < n then ((z + c : Nat) : Int) else -1 := by
  obtain ⟨p1, p2⟩ := bel_parts (hi_mono h w) (z + 1)
  rw [hc] at p1 p2
  have hcn := bel_le (fun i => f i / 2 ^ w) (z + 1) n
  rw [hc] at hcn
  try simp only at p1 p2
  have hN64 : hN f w n ≤ 64 * nw (hN f w n) := by unfold nw; omega
  have hV64 : hV f w n < 2 ^ (64 * nw (hN f w n)) := Nat.lt_of_lt_of_le (hV_lt h w (Nat.le_refl n)) (Nat.pow_le_pow_right (by decide) hN64)
  by_cases hlt : c < n
  · rw [if_pos hlt]
    have q := p2 c (Nat.le_refl _) hlt
    have hend := hp_end h w hlt
    have hb : z + c < hp f w c := by unfold hp; omega
    have r1 : rk (hV f w n) (z + c) = c := by
      rw [rk_hV h w _ (Nat.le_refl n)]
      exact bel_of _ _ _ _ (by omega) (fun j hj => by have := p1 j hj; unfold hp; omega) (fun j a b => by have := hp_up h w c j a b; omega)
    have r2 : rk (hV f w n) (z + c + 1) = c := by
      rw [rk_hV h w _ (Nat.le_refl n)]
      exact bel_of _ _ _ _ (by omega) (fun j hj => by have := p1 j hj; unfold hp; omega) (fun j a b => by have := hp_up h w c j a b; omega)
    have hbit : (hV f w n).testBit (z + c) = false := by
      have h1 := rk_step (hV f w n) (z + c)
      rw [r1, r2] at h1
      by_cases hb : (hV f w n).testBit (z + c) = true
      · rw [if_pos hb] at h1; omega
      · simpa using hb
    refine sel_of _ _ _ (z + c) (by omega) (bit_one.2 ?_) ?_
    · rw [flip_bit hV64, hbit]; simp; omega
    · rw [flip_rk hV64 _ (by omega), r1]; omega
  · rw [if_neg hlt]
    refine sel_outN _ _ _ (.inr ?_)
    rw [flip_rk hV64 _ hN64, rk_all h w]
    cases n with
    | zero => simp [hN]
    | succ n => have := p1 n (by omega); rw [hN]; unfold hp; omega

/-! ### Below, by the high part and the low bits -/
theorem split_lt (x v w : Nat) : x < v ↔ x / 2 ^ w < v / 2 ^ w ∨ (x / 2 ^ w = v / 2 ^ w ∧ x % 2 ^ w < v % 2 ^ w) := by
  have e1 := Nat.div_add_mod x (2 ^ w)
  have e2 := Nat.div_add_mod v (2 ^ w)
  have m1 := Nat.mod_lt x (Nat.two_pow_pos w)
  have m2 := Nat.mod_lt v (Nat.two_pow_pos w)
  generalize x / 2 ^ w = a at *
  generalize v / 2 ^ w = b at *
  generalize x % 2 ^ w = c at *
  generalize v % 2 ^ w = d at *
  generalize 2 ^ w = P at *
  constructor
  · intro h
    rcases Nat.lt_trichotomy a b with hab | hab | hab
    · exact .inl hab
    · subst hab; exact .inr ⟨rfl, by omega⟩
    · exfalso
      have := Nat.mul_le_mul_left P (show b + 1 ≤ a by omega)
      rw [Nat.mul_succ] at this
      omega
  · rintro (hab | ⟨rfl, h⟩)
    · have := Nat.mul_le_mul_left P (show a + 1 ≤ b by omega)
      rw [Nat.mul_succ] at this
      omega
    · omega

theorem low_rising {f : Nat → Nat} {n : Nat} (h : Climbs f n) (w q : Nat) : Rising (fun i => f i % 2 ^ w) n (bel (fun i => f i / 2 ^ w) q n : Nat) (bel (fun i => f i / 2 ^ w) (q + 1) n : Nat) := by
  intro i h1 h2 h3 h4
  obtain ⟨_, p2⟩ := bel_parts (hi_mono h w) q
  obtain ⟨p3, _⟩ := bel_parts (hi_mono h w) (q + 1)
  have a1 := p2 (i - 1) (by omega) (by omega)
  have a2 := p2 i (by omega) (by omega)
  have a3 := p3 (i - 1) (by omega)
  have a4 := p3 i (by omega)
  have hm := h.mono (show i - 1 ≤ i by omega) h2
  simp only at a1 a2 a3 a4 ⊢
  have e1 := Nat.div_add_mod (f (i - 1)) (2 ^ w)
  have e2 := Nat.div_add_mod (f i) (2 ^ w)
  rw [show f (i - 1) / 2 ^ w = q by omega] at e1
  rw [show f i / 2 ^ w = q by omega] at e2
  omega

/-- What below tells: the place that is found among those with the same part, or the end of these. -/
theorem below_of {f : Nat → Nat} {n : Nat} (h : Climbs f n) (w v : Nat) (r : Int) (hr : IsFind (fun i => f i % 2 ^ w) n (bel (fun i => f i / 2 ^ w) (v / 2 ^ w) n : Nat) (bel (fun i => f i / 2 ^ w) (v / 2 ^ w + 1) n : Nat) (v % 2 ^ w) r) :
    ((bel f v n : Nat) : Int) = if 0 ≤ r then r else (bel (fun i => f i / 2 ^ w) (v / 2 ^ w + 1) n : Nat) := by
  obtain ⟨p1, p2⟩ := bel_parts (hi_mono h w) (v / 2 ^ w)
  obtain ⟨p3, p4⟩ := bel_parts (hi_mono h w) (v / 2 ^ w + 1)
  have l1 := bel_le (fun i => f i / 2 ^ w) (v / 2 ^ w) n
  have l2 := bel_le (fun i => f i / 2 ^ w) (v / 2 ^ w + 1) n
  generalize bel (fun i => f i / 2 ^ w) (v / 2 ^ w) n = lo at *
  generalize bel (fun i => f i / 2 ^ w) (v / 2 ^ w + 1) n = hi at *
  try simp only at p1 p2 p3 p4
  rcases hr with ⟨rfl, hr⟩ | ⟨i, rfl, a1, a2, a3, a4, a5⟩
  · rw [if_neg (by omega)]
    congr 1
    refine bel_of _ _ _ _ l2 (fun j hj => ?_) (fun j a b => ?_)
    · rw [split_lt (f j) v w]
      rcases Nat.lt_or_ge j lo with hl | hl
      · exact .inl (p1 j hl)
      · right
        have := p2 j hl (by omega)
        have := p3 j hj
        exact ⟨by omega, hr j (by omega) (by omega) (by omega)⟩
    · have := p4 j a b
      rcases Nat.lt_or_ge (f j) v with hlt | hge
      · rw [split_lt (f j) v w] at hlt; omega
      · exact hge
  · rw [if_pos (by omega)]
    congr 1
    refine bel_of _ _ _ _ (by omega) (fun j hj => ?_) (fun j a b => ?_)
    · rw [split_lt (f j) v w]
      rcases Nat.lt_or_ge j lo with hl | hl
      · exact .inl (p1 j hl)
      · right
        have := p2 j hl (by omega)
        have := p3 j (by omega)
        exact ⟨by omega, a5 j hj (by omega)⟩
    · rcases Nat.lt_or_ge (f j) v with hlt | hge
      · exfalso
        have hij := h.mono a b
        have hvi : v ≤ f i := by
          rcases Nat.lt_or_ge (f i) v with h1 | h1
          · rw [split_lt (f i) v w] at h1
            have := p2 i (by omega) (by omega)
            have := p3 i (by omega)
            simp only at a4
            omega
          · exact h1
        omega
      · exact hge

/-! ### What is asked of a sequence -/
/-- The number nearest to v from 0 to 2^40 + 1. -/
def nearV (v : Int) : Nat := (min (max v 0) 1099511627777).toNat
theorem nearV_eq (v : Int) : min (max v 0) 1099511627777 = (nearV v : Nat) := by unfold nearV; omega
theorem nearV_le (v : Int) : nearV v ≤ 1099511627777 := by unfold nearV; omega
theorem nearV_lt {x : Nat} (hx : x ≤ 1099511627776) (v : Int) : x < nearV v ↔ (x : Int) < v := by unfold nearV; omega

/-- How many numbers are below v, whatever v is. -/
def belI (f : Nat → Nat) (v : Int) (n : Nat) : Nat := bel f (nearV v) n
theorem belI_le (f : Nat → Nat) (v : Int) (n : Nat) : belI f v n ≤ n := bel_le _ _ _
theorem belI_lt {f : Nat → Nat} {n : Nat} (h : Climbs f n) (v : Int) {j : Nat} (hj : j < belI f v n) : (f j : Int) < v :=
  (nearV_lt (h.top j (Nat.lt_of_lt_of_le hj (belI_le f v n))) v).1 ((bel_parts h.ups (nearV v)).1 j hj)
theorem belI_ge {f : Nat → Nat} {n : Nat} (h : Climbs f n) (v : Int) {j : Nat} (hj : belI f v n ≤ j) (hn : j < n) : v ≤ (f j : Int) := by
  have h1 := (bel_parts h.ups (nearV v)).2 j hj hn
  have h2 : ¬ (f j : Int) < v := fun h3 => absurd ((nearV_lt (h.top j hn) v).2 h3) (by omega)
  omega

/-- The i-th number; -1: there is none. -/
def atZ (f : Nat → Nat) (n : Nat) (i : Int) : Int := if 0 ≤ i ∧ i < n then (f i.toNat : Int) else -1
theorem atZ_in (f : Nat → Nat) (n i : Nat) (h : i < n) : atZ f n i = f i := by unfold atZ; rw [if_pos ⟨by omega, by omega⟩]; rfl
theorem atZ_out (f : Nat → Nat) (n : Nat) (i : Int) (h : ¬ (0 ≤ i ∧ i < n)) : atZ f n i = -1 := if_neg h

/-- The place i, if there is one; else -1. -/
def placeZ (n : Nat) (i : Int) : Int := if 0 ≤ i ∧ i < n then i else -1
theorem atZ_place (f : Nat → Nat) (n : Nat) (i : Int) : atZ f n (placeZ n i) = atZ f n i := by
  unfold placeZ
  by_cases h : 0 ≤ i ∧ i < n
  · rw [if_pos h]
  · rw [if_neg h, atZ_out f n i h, atZ_out f n (-1) (by omega)]

def nextZ (f : Nat → Nat) (n : Nat) (v : Int) : Int := placeZ n (belI f v n : Nat)
def aheadZ (f : Nat → Nat) (n : Nat) (v : Int) : Int := placeZ n ((belI f (min v 1099511627776 + 1) n : Nat) - 1)
def findZ (f : Nat → Nat) (n : Nat) (lo hi v : Int) : Int := if min hi n ≤ max lo (belI f v n : Nat) then -1 else if atZ f n (max lo (belI f v n : Nat)) = v then max lo (belI f v n : Nat) else -1

/-- How many bits there are in all. -/
def sizeN (f : Nat → Nat) (w n : Nat) : Nat := n * w + hN f w n

end Go.Proofs.YtbjgbigalfhnjaaGreatDoor

namespace Go.Proofs.YtbjgbigalfhnjaaGreatDoor
open Go.RowKit

theorem ints_one (f : Nat → Nat) (K : Nat) : ∀ u ∈ ints f K, u.oneCell' = true := by
  intro y hy; simp [ints] at hy; obtain ⟨_, _, rfl⟩ := hy; rfl

set_option maxRecDepth 1000000 in
theorem clone_ints (v : Value) (K : Nat) (f : Nat → Nat) (w : World) (h : IRd w v K f) (hK : K ≤ 1099511627776) (h0 : 0 < K) :
    Calls Tryz.prog 93 #[v] w fun e w' => ∃ v', e = .returned v' ∧ w'.ownsRow w.heap.size 3 1 v' K (ints f K) ∧ More w w' := by
  obtain ⟨i0, hi, hz0, hz1, hz2⟩ := info_parts Tryz.infoInt
  have he : (w.alloc (.cells #[] 3)).ownsRow w.heap.size 3 1 (.slice (some ⟨w.heap.size, 0, none⟩) 0 0) 0 [] := World.ownsRow_lit w #[] 0 (Nat.le_refl _) (by decide) rfl
  have hke : Below w.heap.size w (w.alloc (.cells #[] 3)) := (Below.refl w.heap.size w).alloc (Nat.le_refl _) (.cells #[] 3)
  rcases h with ⟨rfl, _⟩ | ⟨g, cap, rfl, hg, hc⟩
  · omega
  · have hn : ∀ w : World, (binOp .eql 22 (.slice (some ⟨g, 0, none⟩) K cap) (.slice none 0 0)).run Tryz.prog w = .ok (.bool false) w := fun _ => rfl
    have HE : Hid _ := And.intro he hke
    have hcc : ∀ (j : Nat) u, (ints f K)[j]? = some u → (w.alloc (.cells #[] 3)).cell? ((⟨g, 0, none⟩ : Addr).add j) = some u := by
      intro j u hu
      have hj : j < K := by have := (List.getElem?_eq_some_iff.1 hu).1; simpa [ints_len] using this
      rw [ints_get _ _ _ hj] at hu
      rw [Addr.add_lit, World.cell?_alloc_past _ _ _ hg, Nat.zero_add, hc j hj]
      exact hu
    have HC : Hid _ := hcc
    clear he hke hc hcc
    go_enter Tryz.func93, Tryz.ntmps93
    go_wp2_with (at_builtin; refine wpList_append_own _ rfl (.tmp 5) (.tmp 6) 22 rfl w.heap.size 3 i0 (.int .i64 0) 1 8 Tryz.underlying22 hi hz0 hz1 hz2 rfl (by decide) _ _ _ rfl HE.out.1 ⟨g, 0, none⟩ K cap (ints f K) rfl (by rw [ints_len, Nat.mul_one]) HC.out ?c2 ?c3 ?c4 ?c5 ?_)
    case c2 => exact ints_one f K
    case c3 => unfold maxLen; omega
    case c4 => omega
    case c5 => simp
    · intro v' w1 hown hgrow _
      have hk : More w w1 := HE.out.2.grown hgrow (by simp) (fun k hk => (HE.out.1.lt k hk).1)
      have HO : Hid _ := And.intro hown hk
      clear hown hgrow hk HE
      go_wp2
      go_ret
      exact ⟨_, rfl, HO.out.1, HO.out.2⟩

theorem dir_marks (d V n : Nat) (w : World) (c1 : ∃ m, w.cell? ⟨d, 1, none⟩ = some m ∧ IRd w m (nm n + 1) (mk V n)) (hlen : n ≤ 1099511627776) :
    Calls Tryz.prog 79 #[.pointer (some ⟨d, 0, none⟩)] w fun e w' => ∃ v', e = .returned v' ∧ w'.ownsRow w.heap.size 3 1 v' (nm n + 1) (ints (mk V n) (nm n + 1)) ∧ More w w' := by
  obtain ⟨m, c1, hm⟩ := c1
  have hcl := clone_ints m (nm n + 1) (mk V n) w hm (by unfold nm nw; omega) (by omega)
  obtain ⟨ao, cap, rfl⟩ := hm.shape
  clear hm
  go_enter Tryz.func79, Tryz.ntmps79
  go_wp2_with (go_at_call 93; refine hcl.mono ?_; rintro e w' ⟨v', rfl, hown, hk⟩; have HO : Hid _ := And.intro hown hk; clear hown hk)
  go_ret
  exact ⟨_, rfl, HO.out.1, HO.out.2⟩
theorem none_marks (w : World) : Calls Tryz.prog 79 #[.pointer none] w fun e w' => e = .returned (.slice none 0 0) ∧ w' = w := by
  go_enter Tryz.func79, Tryz.ntmps79
  go_wp2
  go_ret
  exact ⟨rfl, rfl⟩

theorem IRd.drewN {w : World} {v : Value} {K : Nat} {f : Nat → Nat} (h : IRd w v K f) (m : Nat) : IRd (w.drewN m) v K f := h

end Go.Proofs.YtbjgbigalfhnjaaGreatDoor

namespace Go.Proofs.YtbjgbigalfhnjaaGreatDoor
open Go.RowKit

/-- Words that are there again and again. -/
def turn (f : Nat → Nat) (L j : Nat) : Nat := f (j % L)
theorem turn_at (f : Nat → Nat) (L k i : Nat) (h : i < L) : turn f L (L * k + i) = f i := by
  unfold turn; rw [Nat.mul_add_mod, Nat.mod_eq_of_lt h]
theorem turn_lt (f : Nat → Nat) (L j : Nat) (hL : 0 < L) (hf : ∀ j, j < L → f j < 18446744073709551616) : turn f L j < 18446744073709551616 := hf _ (Nat.mod_lt _ hL)
/-- M of them, as a number. -/
def turnV (f : Nat → Nat) (L M : Nat) : Nat := ofW (turn f L) M
theorem turnV_lt (f : Nat → Nat) (L M : Nat) (hf : ∀ j, j < L → f j < 18446744073709551616) (h : L = 0 → M = 0) : turnV f L M < 2 ^ (64 * M) := by
  by_cases hL : L = 0
  · rw [h hL]; simp [turnV, ofW]
  · exact ofW_lt _ _ fun j _ => turn_lt f L j (by omega) hf
theorem turnV_succ (f : Nat → Nat) (L k i : Nat) (h : i < L) : turnV f L (L * k + i + 1) = cat (turnV f L (L * k + i)) (64 * (L * k + i)) (f i) := by
  rw [turnV, ofW, turn_at f L k i h]; rfl

theorem Rd.cell {w w' : World} {ao : Option Addr} {K cap : Nat} {f : Nat → Nat} (h : Rd w (.slice ao K cap) K f) (k : Nat) (hk : k < K) : ∃ g o, ao = some ⟨g, o, none⟩ ∧ (More w w' → w'.cell? ⟨g, o + k, none⟩ = some (.int .u64 (f k : Nat))) := by
  rcases h with ⟨rfl, _⟩ | ⟨g, o, cap', h, hg, hc⟩
  · omega
  · simp at h
    exact ⟨g, o, h.1, fun m => (m.cell (p := ⟨g, o + k, none⟩) hg).trans (hc k hk)⟩

theorem own_lower {w : World} {base base' : Nat} {e : TypeId} {size : Nat} {v : Value} {n : Nat} {xs : List Value} (h : w.ownsRow base e size v n xs) (hb : base' ≤ base) : w.ownsRow base' e size v n xs := by
  refine ⟨h.1, ?_⟩
  rcases h.2 with h2 | ⟨g, cap, cur, hv, hg, hr⟩
  · exact .inl h2
  · exact .inr ⟨g, cap, cur, hv, Nat.le_trans hb hg, hr⟩

/-- The row's bits behind the words. -/
def rowV (f : Nat → Nat) (L T x N : Nat) : Nat := cat (turnV f L (L * T)) (64 * (L * T)) (x % 2 ^ N)
def rowN (L T N : Nat) : Nat := 64 * (L * T) + N
theorem mul_le_240 {L T : Nat} (hL : L ≤ 6) (hT : T ≤ 40) : L * T ≤ 240 := Nat.mul_le_mul hL hT
theorem rowN_le {L T N : Nat} (hL : L ≤ 6) (hT : T ≤ 40) (hN : N ≤ 64) : rowN L T N ≤ 15424 := by have := mul_le_240 hL hT; unfold rowN; omega
theorem rowV_lt {f : Nat → Nat} {L T x N : Nat} (hf : ∀ j, j < L → f j < 18446744073709551616) : rowV f L T x N < 2 ^ rowN L T N :=
  cat_lt (turnV_lt f L (L * T) hf (fun h => by rw [h, Nat.zero_mul])) (Nat.mod_lt _ (Nat.two_pow_pos N))

end Go.Proofs.YtbjgbigalfhnjaaGreatDoor
