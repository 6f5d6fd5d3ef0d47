/-
  math/bits.TrailingZeros64 finds the lowest one of a word that is not 0.
-/
import Derived.Test.YtgcaenpflndibaaDoorCuts
import Derived.Lib.TrailingZeros
namespace Go.Proofs.YtgcaenpflndibaaDoor
open Go.RowKit

/-- The library's table lies in its variable. -/
def TabIn (w : World) : Prop := ∀ j : Nat, j < 64 → w.cell? ⟨0, j, none⟩ = some (.int .u8 (Lib.deBruijn64tab.getD j 0 : Nat))

theorem TabIn.below {n₀ : Nat} {w w' : World} (h : TabIn w) (hb : Below n₀ w w') (h0 : 0 < n₀) : TabIn w' :=
  fun j hj => (hb.cell (p := ⟨0, j, none⟩) h0).trans (h j hj)

theorem tz_key (x a : Nat) (hx : x < 18446744073709551616) (hx0 : x ≠ 0) (hlow : x &&& (18446744073709551616 - x) = a) :
    IntKind.u64.wrap (bits .and .u64 (x : Int) (IntKind.u64.wrap (-(x : Int))) * 285870213051353865) / 288230376151711744 = ((a * 285870213051353865 % 18446744073709551616 / 288230376151711744 : Nat) : Int) := by
  have e1 : IntKind.u64.wrap (-(x : Int)) = ((18446744073709551616 - x : Nat) : Int) := by rw [IntKind.wrap_u64]; omega
  rw [e1, and_nat x _ hx (by omega), hlow, IntKind.wrap_u64]
  omega

theorem tz_core (x k idx : Nat) (w : World) (hx0 : ((x : Int) == 0) = false)
    (key : IntKind.u64.wrap (bits .and .u64 (x : Int) (IntKind.u64.wrap (-(x : Int))) * 285870213051353865) / 288230376151711744 = (idx : Int))
    (hi : idx < 64) (hk : k < 64) (hcell : w.cell? ⟨0, idx, none⟩ = some (.int .u8 k)) :
    Calls Tryd.prog 58 #[.int .u64 x] w fun e w' => e = .returned (.int .i64 k) ∧ w' = w := by
  go_enter Tryd.func58, Tryd.ntmps58
  go_wp2_with (simp only [key])
  go_ret
  exact ⟨rfl, rfl⟩

theorem tz (q m : Nat) (hx : 2 ^ q * (2 * m + 1) < 18446744073709551616) (hq : q < 64) (w : World) (hT : TabIn w) :
    Calls Tryd.prog 58 #[.int .u64 ((2 ^ q * (2 * m + 1) : Nat) : Int)] w fun e w' => e = .returned (.int .i64 q) ∧ w' = w := by
  have hlow := Lib.and_neg 64 q m hx
  obtain ⟨hi, htab⟩ := Lib.deBruijn64_at q hq
  have hp : 0 < 2 ^ q * (2 * m + 1) := Nat.mul_pos (Nat.two_pow_pos q) (by omega)
  generalize 2 ^ q * (2 * m + 1) = x at *
  have key := tz_key x (2 ^ q) hx (by omega) hlow
  have hc := hT _ hi
  rw [htab] at hc
  exact tz_core x q _ w (by simp; omega) key hi hq hc

end Go.Proofs.YtgcaenpflndibaaDoor
