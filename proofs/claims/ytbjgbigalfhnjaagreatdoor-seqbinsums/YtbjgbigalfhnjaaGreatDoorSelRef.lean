/-
  The document's answers for seldir: Places, At.
-/
import Derived.Test.YtbjgbigalfhnjaaGreatDoorSet10
namespace Go.Proofs.YtbjgbigalfhnjaaGreatDoor
open Go.RowKit

theorem BRd.at {w : World} {ao : Option Addr} {n cap V : Nat} (h : BRd w (.slice ao n cap) n V) (hn : 0 < n) : ∃ g, ao = some ⟨g, 0, none⟩ ∧ ∀ k, k < n → w.cell? ⟨g, k, none⟩ = some (.bool (V.testBit k)) := by
  rcases h with ⟨rfl, _⟩ | ⟨g, cap', h, hc⟩
  · omega
  · simp at h
    exact ⟨g, h.1, hc⟩

/-- What is looked for. -/
def oneV (V n : Nat) : Bool → Nat
  | true => V
  | false => flipV V (nw n)
theorem oneV_bit {V n : Nat} (h : V < 2 ^ n) (one : Bool) (i : Nat) (hi : i < n) : (oneV V n one).testBit i = (V.testBit i == one) := by
  have hn : n ≤ 64 * nw n := by unfold nw; omega
  cases one with
  | true => simp [oneV]
  | false =>
    rw [oneV, flip_bit (Nat.lt_of_lt_of_le h (Nat.pow_le_pow_right (by decide) hn))]
    simp [show i < 64 * nw n by omega]

theorem at_sel (U n : Nat) (k : Int) : (if 0 ≤ k ∧ k < (rk U n : Nat) then (pl U n k.toNat : Int) else -1) = sel U k n := by
  by_cases hk : 0 ≤ k ∧ k < (rk U n : Nat)
  · rw [if_pos hk]
    obtain ⟨k, rfl⟩ := Int.eq_ofNat_of_zero_le hk.1
    exact pl_at U n k (by omega)
  · rw [if_neg hk, sel_outN U k n (by omega)]

end Go.Proofs.YtbjgbigalfhnjaaGreatDoor
