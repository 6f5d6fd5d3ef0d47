/-
  The walk over the chapter's example ('live'), and what the three laws' walks share.
-/
import Derived.Test.YtcgipbeajhlllaaDoorCuts
namespace Go.Proofs.YtcgipbeajhlllaaDoor
open Go.RowKit

theorem grown_drewN {W w' : World} (h : Grown W w') (n : Nat) : Grown W (w'.drewN n) := h

theorem live (w : World) : Calls Tryd.prog 7 #[] w fun e w' => e = .returned (.bool true) ∧ ∃ m, w' = w.drewN m := by
  have k1 := fun w => ones 22 (by omega) w
  have k2 := fun w => lane_Rank 22 (by omega) 3 w
  have k3 := fun w => lane_Select 22 (by omega) 2 w
  have k4 := fun w => lane_Cut 22 (by omega) 1 3 w
  have k5 := fun w => lane_Width 22 (by omega) w
  rw [show rk 22 64 = 3 by decide +kernel] at k1
  rw [show rk 22 (min 64 (3 : Int).toNat) = 2 by decide +kernel] at k2
  rw [show sel 22 2 64 = 4 by decide +kernel] at k3
  rw [show sh 22 1 % 2 ^ (min 64 (3 : Int).toNat) = 3 by decide +kernel] at k4
  rw [show Lib.bitLen 22 = 5 by decide +kernel] at k5
  go_enter Tryd.func7, Tryd.ntmps7
  go_wp2_with (first | (go_at_call 11; refine (k1 _).mono ?_; rintro e w' ⟨rfl, rfl⟩) | (go_at_call 12; refine (k2 _).mono ?_; rintro e w' ⟨rfl, rfl⟩) | (go_at_call 13; refine (k3 _).mono ?_; rintro e w' ⟨rfl, rfl⟩) | (go_at_call 14; refine (k4 _).mono ?_; rintro e w' ⟨rfl, m, rfl⟩) | (go_at_call 15; refine (k5 _).mono ?_; rintro e w' ⟨rfl, rfl⟩))
  go_ret
  exact ⟨rfl, _, rfl⟩
end Go.Proofs.YtcgipbeajhlllaaDoor
