/-
  Lists without a wrong, as numbers.
-/
import Derived.Test.YtheieibkbeckkaaDoorEliasRefB
namespace Go.Proofs.YtheieibkbeckkaaDoor
open Go.RowKit

theorem tell {w : World} {v : Value} {K : Nat} {g : Nat → Int} (h : ZRd w v K g) (h0 : wrg g K = 0) : ZRd w v K (fun j => (((g j).toNat : Nat) : Int)) := h.congr (wrg_climbs g K h0).1

theorem wrg_tell (g : Nat → Int) (K : Nat) (h0 : wrg g K = 0) : wrg (fun j => (((g j).toNat : Nat) : Int)) K = 0 := by
  have hf : ∀ k, k ≤ K → wrg (fun j => (((g j).toNat : Nat) : Int)) k = wrg g k := fun k => by
    induction k with
    | zero => intro _; rfl
    | succ k ih =>
      intro hk
      have e1 := (wrg_climbs g K h0).1 k (by omega)
      have e2 : 0 < k → g (k - 1) = ((g (k - 1)).toNat : Nat) := fun _ => (wrg_climbs g K h0).1 (k - 1) (by omega)
      rw [wrg, wrg, ih (by omega), ← e1]
      by_cases hk0 : 0 < k
      · rw [← e2 hk0]
      · simp [hk0]
  rw [hf K (Nat.le_refl _)]; exact h0

end Go.Proofs.YtheieibkbeckkaaDoor
