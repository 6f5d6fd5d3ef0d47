/-
  The document's own answers: Words, Same, Ones, Next, Of.
-/
import Derived.Test.YtgcaenpflndibaaDoorRefA
namespace Go.Proofs.YtgcaenpflndibaaDoor
open Go.RowKit

theorem BRd.more {w w' : World} {v : Value} {n V : Nat} (h : BRd w v n V) (k : More w w') : BRd w' v n V := by
  rcases h with h | ⟨g, cap, rfl, hc⟩
  · exact .inl h
  · exact .inr ⟨g, cap, rfl, fun j hj => (k.cell (p := ⟨g, j, none⟩) (World.block_lt_of_cell? w ⟨g, j, none⟩ (hc j hj))).trans (hc j hj)⟩
theorem Rd.more {w w' : World} {v : Value} {K : Nat} {f : Nat → Nat} (h : Rd w v K f) (k : More w w') : Rd w' v K f := by
  rcases h with h | ⟨g, o, cap, rfl, hg, hc⟩
  · exact .inl h
  · exact .inr ⟨g, o, cap, rfl, Nat.lt_of_lt_of_le hg k.size, fun j hj => (k.cell (p := ⟨g, o + j, none⟩) hg).trans (hc j hj)⟩
theorem Rd.shape {w : World} {v : Value} {K : Nat} {f : Nat → Nat} (h : Rd w v K f) : ∃ ao cap, v = .slice ao K cap := by
  rcases h with ⟨rfl, ao, cap, rfl⟩ | ⟨g, o, cap, rfl, _⟩
  · exact ⟨_, _, rfl⟩
  · exact ⟨_, _, rfl⟩

theorem rk_succ (V k : Nat) : rk V (k + 1) = rk V k + (if V.testBit k = true then 1 else 0) := by
  have := rk_add V k 1
  rw [this]
  congr 1
  rw [bit_eq]
  simp [rk]
  split <;> omega

theorem nw_nw (n : Nat) : nw (64 * nw n) = nw n := by unfold nw; omega

/-- Words are those of a row of n bits just if there are as many as can be, and none is too great. -/
theorem of_iff (f : Nat → Nat) (n K : Nat) (hf : ∀ j, j < K → f j < 18446744073709551616) : (nw n = K ∧ ∀ j, j < nw n → wd (ofW f K % 2 ^ n) j = f j) ↔ (K = nw n ∧ ofW f K < 2 ^ n) := by
  constructor
  · rintro ⟨rfl, h⟩
    refine ⟨rfl, ?_⟩
    have h1 := ofW_lt f (nw n) hf
    have h2 : ofW f (nw n) % 2 ^ n < 2 ^ n := Nat.mod_lt _ (Nat.two_pow_pos n)
    have h3 : 2 ^ n ≤ 2 ^ (64 * nw n) := Nat.pow_le_pow_right (by decide) (by unfold nw; omega)
    have h4 := eq_of_words (n := 64 * nw n) (V := ofW f (nw n) % 2 ^ n) (W := ofW f (nw n)) (by omega) h1 (fun j hj => by
      have e : nw (64 * nw n) = nw n := nw_nw n
      have hj' : j < nw n := by omega
      rw [h j hj', ofW_wd f _ hf j hj'])
    omega
  · rintro ⟨rfl, h⟩
    refine ⟨rfl, fun j hj => ?_⟩
    rw [Nat.mod_eq_of_lt h, ofW_wd f _ hf j hj]

end Go.Proofs.YtgcaenpflndibaaDoor
