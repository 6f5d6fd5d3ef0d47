/-
  math/bits.TrailingZeros64 finds the lowest one of a word that is not 0.
-/
import Derived.Test.YtgcaenpflndibaaCuts
import Derived.Lib.TrailingZeros
namespace Go.Proofs.Ytgcaenpflndibaa
open Go.RowKit

/-- The library's table lies in its variable. -/
def TabIn (w : World) : Prop := ∀ j : Nat, j < 64 → w.cell? ⟨0, j, none⟩ = some (.int .u8 (Lib.deBruijn64tab.getD j 0 : Nat))

theorem TabIn.below {n₀ : Nat} {w w' : World} (h : TabIn w) (hb : Below n₀ w w') (h0 : 0 < n₀) : TabIn w' :=
  fun j hj => (hb.cell (p := ⟨0, j, none⟩) h0).trans (h j hj)

theorem tz_key (x a : Nat) (hx : x < 18446744073709551616) (hx0 : x ≠ 0) (hlow : x &&& (18446744073709551616 - x) = a) :
    IntKind.u64.wrap (bits .and .u64 (x : Int) (IntKind.u64.wrap (-(x : Int))) * 285870213051353865) / 288230376151711744 = ((a * 285870213051353865 % 18446744073709551616 / 288230376151711744 : Nat) : Int) := by
  have e1 : IntKind.u64.wrap (-(x : Int)) = ((18446744073709551616 - x : Nat) : Int) := by rw [IntKind.wrap_u64]; omega
  rw [e1, and_nat x _ hx (by omega), hlow, IntKind.wrap_u64]
  omega

end Go.Proofs.Ytgcaenpflndibaa
