/-
  bitrow's Of: the row of some words, or why there is none.
-/
import Derived.Test.YtgcaenpflndibaaDoorSame
namespace Go.Proofs.YtgcaenpflndibaaDoor
open Go.RowKit

theorem above_zero (x u : Nat) (hu : u ≤ 64) (hx : x < 18446744073709551616) : x &&& (18446744073709551615 - (2 ^ u - 1)) = 0 ↔ x < 2 ^ u := by
  have hm : ∀ t, (18446744073709551615 - (2 ^ u - 1)).testBit t = (decide (t < 64) && !decide (t < u)) := by
    intro t
    have hB2 : 2 ^ u - 1 < 2 ^ 64 := by
      have := Nat.pow_le_pow_right (show 0 < 2 by decide) hu
      have := Nat.two_pow_pos u
      omega
    have := Nat.testBit_two_pow_sub_succ hB2 t
    rw [show 2 ^ 64 - (2 ^ u - 1 + 1) = 18446744073709551615 - (2 ^ u - 1) by omega, Nat.testBit_two_pow_sub_one] at this
    exact this
  constructor
  · intro h
    apply Nat.lt_pow_two_of_testBit
    intro i hi
    have h2 : (x &&& (18446744073709551615 - (2 ^ u - 1))).testBit i = false := by rw [h]; simp
    rw [Nat.testBit_and, hm] at h2
    by_cases h6 : i < 64
    · simpa [h6, show ¬ i < u by omega] using h2
    · exact bit_above (n := 64) hx (by omega)
  · intro h
    apply Nat.eq_of_testBit_eq
    intro i
    rw [Nat.testBit_and, hm, Nat.zero_testBit]
    by_cases h6 : i < u
    · simp [h6]
    · rw [bit_above h (by omega)]; rfl

theorem top_word (f : Nat → Nat) (n K : Nat) (hK : K = nw n) (hu : n % 64 ≠ 0) (hf : ∀ j, j < K → f j < 18446744073709551616) : ofW f K < 2 ^ n ↔ f (n / 64) < 2 ^ (n % 64) := by
  have hq : K = n / 64 + 1 := by unfold nw at hK; omega
  subst hq
  have hl := ofW_lt f (n / 64) fun j hj => hf j (by omega)
  have hn : 2 ^ n = 2 ^ (64 * (n / 64)) * 2 ^ (n % 64) := by rw [← Nat.pow_add]; congr 1; omega
  rw [ofW]
  constructor
  · intro h
    apply Nat.lt_of_not_le
    intro h2
    have := Nat.mul_le_mul_left (2 ^ (64 * (n / 64))) h2
    unfold cat at h
    omega
  · intro h
    have := cat_lt hl h
    rwa [show 64 * (n / 64) + n % 64 = n by omega] at this

theorem full_word (f : Nat → Nat) (n K : Nat) (hK : K = nw n) (hu : n % 64 = 0) (hf : ∀ j, j < K → f j < 18446744073709551616) : ofW f K < 2 ^ n := by
  have hl := ofW_lt f K hf
  rwa [show 64 * K = n by unfold nw at hK; omega] at hl

theorem rd_drewN {w : World} {v : Value} {K : Nat} {f : Nat → Nat} (h : Rd w v K f) (m : Nat) : Rd (w.drewN m) v K f := h

theorem shape_of {w : World} {base : Nat} {v : Value} {K e : Nat} {xs : List Value} (h : w.ownsRow base e 1 v K xs) : ∃ ao cap, v = .slice ao K cap := by
  rcases h.2 with ⟨h, hn⟩ | ⟨g, cap, _, h, _⟩
  · exact ⟨none, 0, by rw [h, hn]⟩
  · exact ⟨_, _, h⟩

/-- The row that has been made. -/
theorem of_end {w w1 : World} {K n : Nat} {f : Nat → Nat} {v : Value} (hown : w1.ownsRow w.heap.size 57 1 v K (u64s f K)) (hk : Keeps w.heap.size w w1) (hK : K = nw n) (hf : ∀ j, j < K → f j < 18446744073709551616) (hfit : ofW f K < 2 ^ n) (hn : n ≤ 1099511627776) :
    RowAt (w1.alloc (.cells #[v, .int .i64 n] 80)) w.heap.size w1.heap.size (ofW f K) n ∧ Keeps w.heap.size w (w1.alloc (.cells #[v, .int .i64 n] 80)) := by
  refine ⟨⟨hk.below.size, hfit, hn, v, heap_alloc_new _ _, ?_⟩, hk.alloc hk.below.size _⟩
  rw [← hK, u64s_congr (f := wd (ofW f K)) (g := f) fun i hi => ofW_wd f K hf i hi]
  exact hown.alloc _

end Go.Proofs.YtgcaenpflndibaaDoor
