/-
  Numbers in any order, plainly: their sums, parts of them, and of which number a unit is one.
-/
import Derived.Test.YtgcaenpflndibaaDoorEliasMath
namespace Go.Proofs.YtgcaenpflndibaaDoor

/-- What the first k numbers come to together. -/
def sm (f : Nat → Nat) : Nat → Nat
  | 0 => 0
  | k + 1 => sm f k + f k
theorem sm_mono (f : Nat → Nat) {i j : Nat} (h : i ≤ j) : sm f i ≤ sm f j := by
  induction j with
  | zero => obtain rfl : i = 0 := by omega
            exact Nat.le_refl _
  | succ j ih =>
    by_cases e : i = j + 1
    · subst e; exact Nat.le_refl _
    · have := ih (by omega); rw [sm]; omega
theorem sm_climbs {f : Nat → Nat} {n : Nat} (h : sm f n ≤ 1099511627776) : Climbs (sm f) (n + 1) :=
  ⟨fun i hi => Nat.le_trans (sm_mono f (by omega)) h, fun i hi => sm_mono f (by omega)⟩
theorem sm_part {f : Nat → Nat} {n k : Nat} (h : sm f n ≤ 1099511627776) (hk : k < n) : sm f k + f k ≤ 1099511627776 := Nat.le_trans (sm_mono f (show k + 1 ≤ n by omega)) h
theorem sm_congr {f g : Nat → Nat} (k : Nat) (h : ∀ j, j < k → f j = g j) : sm f k = sm g k := by
  induction k with
  | zero => rfl
  | succ k ih => rw [sm, sm, ih (fun j hj => h j (by omega)), h k (by omega)]

/-- The first k numbers may be: none is below 0, and together they are at most 2^40. -/
def Fits (g : Nat → Int) (k : Nat) : Prop := (∀ j, j < k → 0 ≤ g j) ∧ sm (fun j => (g j).toNat) k ≤ 1099511627776
theorem fits_zero (g : Nat → Int) : Fits g 0 := ⟨fun j hj => by omega, by simp [sm]⟩
theorem fits_succ {g : Nat → Int} {k y : Nat} (h : Fits g k) (hy : y = sm (fun j => (g j).toNat) k) (h0 : 0 ≤ g k) (h1 : g k ≤ 1099511627776 - (y : Int)) : Fits g (k + 1) := by
  refine ⟨fun j hj => ?_, ?_⟩
  · rcases (show j < k ∨ j = k by omega) with e | rfl
    · exact h.1 j e
    · exact h0
  · rw [sm, ← hy]; omega
theorem fits_below {g : Nat → Int} {k K : Nat} (h : Fits g K) (hk : k ≤ K) : Fits g k := ⟨fun j hj => h.1 j (by omega), Nat.le_trans (sm_mono _ hk) h.2⟩

/-! ### Parts of them -/
/-- What the numbers from the place lo to below hi come to together. -/
def sumZ (f : Nat → Nat) (n : Nat) (lo hi : Int) : Int := if min hi n ≤ max lo 0 then 0 else (sm f (min hi n).toNat : Int) - (sm f (max lo 0).toNat : Int)
/-- The same, one by one. -/
def rsum (f : Nat → Nat) (lo hi : Int) : Nat → Nat
  | 0 => 0
  | k + 1 => rsum f lo hi k + if lo ≤ k ∧ (k : Int) < hi then f k else 0
theorem rsum_le (f : Nat → Nat) (lo hi : Int) (k : Nat) : rsum f lo hi k ≤ sm f k := by
  induction k with
  | zero => simp [rsum]
  | succ k ih => rw [rsum, sm]; split <;> omega
theorem sum_is (f : Nat → Nat) (lo hi : Int) (n : Nat) : sumZ f n lo hi = (rsum f lo hi n : Nat) := by
  induction n with
  | zero => unfold sumZ; rw [if_pos (by omega)]; rfl
  | succ n ih =>
    rw [rsum]
    by_cases h : lo ≤ n ∧ (n : Int) < hi
    · rw [if_pos h, Int.natCast_add, ← ih]
      unfold sumZ
      rw [if_neg (by omega), show (min hi ((n + 1 : Nat) : Int)).toNat = n + 1 by omega, sm]
      by_cases h2 : min hi (n : Int) ≤ max lo 0
      · rw [if_pos h2, show (max lo 0).toNat = n by omega]; omega
      · rw [if_neg h2, show (min hi (n : Int)).toNat = n by omega]; omega
    · rw [if_neg h]
      refine Eq.trans ?_ ih
      unfold sumZ
      by_cases h2 : hi ≤ n
      · rw [show min hi ((n + 1 : Nat) : Int) = min hi n by omega]
      · rw [if_pos (by omega), if_pos (by omega)]
theorem sum_one (f : Nat → Nat) (n i : Nat) (h : i < n) : sumZ f n i ((i : Int) + 1) = f i := by
  unfold sumZ
  rw [if_neg (by omega), show (min ((i : Int) + 1) (n : Int)).toNat = i + 1 by omega, show (max (i : Int) 0).toNat = i by omega, sm]
  omega

/-! ### Of which number a unit is one -/
def whereZ (f : Nat → Nat) (n : Nat) (t : Int) : Int := if t < 0 ∨ (sm f n : Int) ≤ t then -1 else aheadZ (sm f) (n + 1) t
theorem where_miss (f : Nat → Nat) (n : Nat) (t : Int) (h : t < 0 ∨ (sm f n : Int) ≤ t) : whereZ f n t = -1 := if_pos h
theorem where_hit {f : Nat → Nat} {n : Nat} (hf : sm f n ≤ 1099511627776) (k t : Nat) (hk : k < n) (h1 : sm f k ≤ t) (h2 : t < sm f (k + 1)) : whereZ f n t = k := by
  have hn := sm_mono f (show k + 1 ≤ n by omega)
  unfold whereZ
  rw [if_neg (by omega)]
  unfold aheadZ
  have hb : belI (sm f) (min (t : Int) 1099511627776 + 1) (n + 1) = k + 1 := by
    unfold belI
    rw [show nearV (min (t : Int) 1099511627776 + 1) = t + 1 by unfold nearV; omega]
    exact bel_of _ _ _ _ (by omega) (fun j hj => by have := sm_mono f (show j ≤ k by omega); omega) (fun j a b => by have := sm_mono f a; omega)
  rw [hb]
  unfold placeZ
  rw [if_pos (by omega)]; omega

/-- The last sum is all numbers together. -/
theorem last_sum (f : Nat → Nat) (n : Nat) : atZ (sm f) (n + 1) (((n + 1 : Nat) : Int) - 1) = sm f n := by
  rw [show ((n + 1 : Nat) : Int) - 1 = (n : Nat) by omega, atZ_in _ _ _ (Nat.lt_succ_self n)]

end Go.Proofs.YtgcaenpflndibaaDoor
