/-
  How rows of some length come about: the document's Row, the law's Row, Bits and Small.
-/
import Derived.Test.YtgcaenpflndibaaDoorDirRef
import Derived.StillTailTactics
namespace Go.Proofs.YtgcaenpflndibaaDoor
open Go.RowKit

/-- Words that are there again and again. -/
def turn (f : Nat → Nat) (L j : Nat) : Nat := f (j % L)
theorem turn_at (f : Nat → Nat) (L k i : Nat) (h : i < L) : turn f L (L * k + i) = f i := by
  unfold turn; rw [Nat.mul_add_mod, Nat.mod_eq_of_lt h]
theorem turn_lt (f : Nat → Nat) (L j : Nat) (hL : 0 < L) (hf : ∀ j, j < L → f j < 18446744073709551616) : turn f L j < 18446744073709551616 := hf _ (Nat.mod_lt _ hL)
/-- M of them, as a number. -/
def turnV (f : Nat → Nat) (L M : Nat) : Nat := ofW (turn f L) M
theorem turnV_lt (f : Nat → Nat) (L M : Nat) (hf : ∀ j, j < L → f j < 18446744073709551616) (h : L = 0 → M = 0) : turnV f L M < 2 ^ (64 * M) := by
  by_cases hL : L = 0
  · rw [h hL]; simp [turnV, ofW]
  · exact ofW_lt _ _ fun j _ => turn_lt f L j (by omega) hf
theorem turnV_succ (f : Nat → Nat) (L k i : Nat) (h : i < L) : turnV f L (L * k + i + 1) = cat (turnV f L (L * k + i)) (64 * (L * k + i)) (f i) := by
  rw [turnV, ofW, turn_at f L k i h]; rfl

theorem Rd.cell {w w' : World} {ao : Option Addr} {K cap : Nat} {f : Nat → Nat} (h : Rd w (.slice ao K cap) K f) (k : Nat) (hk : k < K) : ∃ g o, ao = some ⟨g, o, none⟩ ∧ (More w w' → w'.cell? ⟨g, o + k, none⟩ = some (.int .u64 (f k : Nat))) := by
  rcases h with ⟨rfl, _⟩ | ⟨g, o, cap', h, hg, hc⟩
  · omega
  · simp at h
    exact ⟨g, o, h.1, fun m => (m.cell (p := ⟨g, o + k, none⟩) hg).trans (hc k hk)⟩

theorem own_lower {w : World} {base base' : Nat} {e : TypeId} {size : Nat} {v : Value} {n : Nat} {xs : List Value} (h : w.ownsRow base e size v n xs) (hb : base' ≤ base) : w.ownsRow base' e size v n xs := by
  refine ⟨h.1, ?_⟩
  rcases h.2 with h2 | ⟨g, cap, cur, hv, hg, hr⟩
  · exact .inl h2
  · exact .inr ⟨g, cap, cur, hv, Nat.le_trans hb hg, hr⟩

/-- The row's bits behind the words. -/
def rowV (f : Nat → Nat) (L T x N : Nat) : Nat := cat (turnV f L (L * T)) (64 * (L * T)) (x % 2 ^ N)
def rowN (L T N : Nat) : Nat := 64 * (L * T) + N
theorem mul_le_240 {L T : Nat} (hL : L ≤ 6) (hT : T ≤ 40) : L * T ≤ 240 := Nat.mul_le_mul hL hT
theorem rowN_le {L T N : Nat} (hL : L ≤ 6) (hT : T ≤ 40) (hN : N ≤ 64) : rowN L T N ≤ 15424 := by have := mul_le_240 hL hT; unfold rowN; omega
theorem rowV_lt {f : Nat → Nat} {L T x N : Nat} (hf : ∀ j, j < L → f j < 18446744073709551616) : rowV f L T x N < 2 ^ rowN L T N :=
  cat_lt (turnV_lt f L (L * T) hf (fun h => by rw [h, Nat.zero_mul])) (Nat.mod_lt _ (Nat.two_pow_pos N))

end Go.Proofs.YtgcaenpflndibaaDoor
