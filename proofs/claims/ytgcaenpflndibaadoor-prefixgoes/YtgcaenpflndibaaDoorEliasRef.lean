/-
  The document's answers for elias: Wrong, At, Next, Ahead, Find, Low, Size.
-/
import Derived.Test.YtgcaenpflndibaaDoorEliasG
namespace Go.Proofs.YtgcaenpflndibaaDoor
open Go.RowKit

theorem wrg_8 (g : Nat → Int) (k K : Nat) (hk : k < K) (h0 : wrg g k = 0) (h : g k < 0 ∨ 1099511627776 < g k) : wrg g K = 8 := by
  have e : wrg g (k + 1) = 8 := by rw [wrg, if_neg (by omega), if_pos h]
  rw [wrg_keeps g (k := k + 1) hk (by omega), e]
theorem wrg_9 (g : Nat → Int) (k K : Nat) (hk : k + 1 < K) (h0 : wrg g (k + 1) = 0) (h : ¬ (g (k + 1) < 0 ∨ 1099511627776 < g (k + 1))) (h1 : g (k + 1) < g k) : wrg g K = 9 := by
  have e : wrg g (k + 1 + 1) = 9 := by rw [wrg, if_neg (by omega), if_neg h, if_pos ⟨by omega, by simpa using h1⟩]
  rw [wrg_keeps g (k := k + 1 + 1) hk (by omega), e]
theorem wrg_next (g : Nat → Int) (k : Nat) (h0 : wrg g (k + 1) = 0) (h : ¬ (g (k + 1) < 0 ∨ 1099511627776 < g (k + 1))) (h1 : ¬ g (k + 1) < g k) : wrg g (k + 1 + 1) = 0 := by
  rw [wrg, if_neg (by omega), if_neg h, if_neg]; simpa using h1
theorem wrg_one (g : Nat → Int) (h : ¬ (g 0 < 0 ∨ 1099511627776 < g 0)) : wrg g 1 = 0 := by
  rw [wrg, if_neg (by simp [wrg]), if_neg h, if_neg (by omega)]

theorem ref_at (v : Value) (n : Nat) (f : Nat → Nat) (i : Int) (w : World) (h : ZRd w v n (fun j => (f j : Int))) :
    Calls Tryd.prog 8 #[v, .int .i64 i] w fun e w' => e = .returned (.int .i64 (atZ f n i)) ∧ w' = w := by
  obtain ⟨ao, cap, rfl⟩ := h.shape
  by_cases h0 : i < 0
  · rw [atZ_out f n i (by omega)]
    clear h
    go_enter Tryd.func8, Tryd.ntmps8
    go_wp2
    go_ret
    exact ⟨rfl, rfl⟩
  obtain ⟨i, rfl⟩ := Int.eq_ofNat_of_zero_le (show 0 ≤ i by omega)
  by_cases h1 : i < n
  · obtain ⟨b, o, rfl, hc⟩ := h.cell (w' := w) i h1
    have hck := hc (Below.refl _ _)
    rw [atZ_in f n i h1]
    clear h hc h0
    go_enter Tryd.func8, Tryd.ntmps8
    go_wp2
    go_ret
    exact ⟨rfl, rfl⟩
  · rw [atZ_out f n i (by omega)]
    clear h h0
    go_enter Tryd.func8, Tryd.ntmps8
    go_wp2
    go_ret
    exact ⟨rfl, rfl⟩

/-- The last of the first k places whose number is not above x; -1: there is none. -/
def lastLe (f : Nat → Nat) (x : Int) : Nat → Int
  | 0 => -1
  | k + 1 => if (f k : Int) ≤ x then k else lastLe f x k
theorem lastLe_of (f : Nat → Nat) (x : Int) (n c : Nat) (hc : c ≤ n) (h1 : ∀ j, j < c → (f j : Int) ≤ x) (h2 : ∀ j, c ≤ j → j < n → ¬ (f j : Int) ≤ x) : lastLe f x n = (c : Int) - 1 := by
  induction n generalizing c with
  | zero => obtain rfl : c = 0 := by omega
            rfl
  | succ n ih =>
    rw [lastLe]
    by_cases e : c = n + 1
    · subst e; rw [if_pos (h1 n (by omega))]; omega
    · rw [if_neg (h2 n (by omega) (by omega))]; exact ih c (by omega) h1 (fun j a b => h2 j a (by omega))
theorem ahead_is {f : Nat → Nat} {n : Nat} (h : Climbs f n) (x : Int) : lastLe f x n = aheadZ f n x := by
  have hle := belI_le f (min x 1099511627776 + 1) n
  rw [lastLe_of f x n (belI f (min x 1099511627776 + 1) n) hle (fun j hj => by have := belI_lt h _ hj; omega) (fun j a b => by have := belI_ge h _ a b; have := h.top j b; omega)]
  unfold aheadZ placeZ
  generalize belI f (min x 1099511627776 + 1) n = B at *
  split <;> omega
theorem lastLe_bound (f : Nat → Nat) (x : Int) (n : Nat) : -1 ≤ lastLe f x n ∧ lastLe f x n < n := by
  induction n with
  | zero => simp [lastLe]
  | succ n ih => rw [lastLe]; split <;> omega

end Go.Proofs.YtgcaenpflndibaaDoor
