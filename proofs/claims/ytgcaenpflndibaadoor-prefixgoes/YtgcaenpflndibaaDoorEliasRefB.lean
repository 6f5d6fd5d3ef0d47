/-
  The document's answers for elias: Find, Low, Size.
-/
import Derived.Test.YtgcaenpflndibaaDoorEliasRef
namespace Go.Proofs.YtgcaenpflndibaaDoor
open Go.RowKit

theorem find_hit {f : Nat → Nat} {n : Nat} (h : Climbs f n) (lo hi x : Int) (k : Nat) (hk : k < n) (h1 : lo ≤ k) (h2 : (k : Int) < hi) (h3 : (f k : Int) = x) (h0 : ∀ j : Nat, j < k → lo ≤ j → (j : Int) < hi → (f j : Int) ≠ x) : findZ f n lo hi x = k := by
  have hB : belI f x n ≤ k := by
    rcases Nat.lt_or_ge k (belI f x n) with hlt | hge
    · have := belI_lt h x hlt; omega
    · exact hge
  have hi0 : max lo (belI f x n : Nat) = (k : Int) := by
    obtain ⟨i, hi'⟩ := Int.eq_ofNat_of_zero_le (show 0 ≤ max lo (belI f x n : Nat) by omega)
    rw [hi']
    rcases Nat.lt_or_ge i k with hlt | hge
    · have a := belI_ge h x (show belI f x n ≤ i by omega) (by omega)
      have b := h.mono (show i ≤ k by omega) hk
      exact absurd (show (f i : Int) = x by omega) (h0 i hlt (by omega) (by omega))
    · omega
  unfold findZ
  rw [hi0, if_neg (by omega), atZ_in f n k hk, if_pos h3]
theorem find_miss {f : Nat → Nat} {n : Nat} (lo hi x : Int) (h0 : ∀ j : Nat, j < n → lo ≤ j → (j : Int) < hi → (f j : Int) ≠ x) : findZ f n lo hi x = -1 := by
  unfold findZ
  split
  · rfl
  · rename_i hno
    obtain ⟨i, hi'⟩ := Int.eq_ofNat_of_zero_le (show 0 ≤ max lo (belI f x n : Nat) by omega)
    rw [hi'] at hno ⊢
    rw [atZ_in f n i (by omega), if_neg (h0 i (by omega) (by omega) (by omega))]

end Go.Proofs.YtgcaenpflndibaaDoor
