/-
  The chapter's example holds.
-/
import Derived.Test.YtmnkbdkhpnokgaaDirCase
namespace Go.Proofs.Ytmnkbdkhpnokgaa
open Go.RowKit

theorem live_V (f : Nat → Nat) : rowV f 0 0 13 5 = 13 := by simp [rowV, turnV, ofW, cat]

set_option maxHeartbeats 800000 in
set_option maxRecDepth 1000000 in
theorem live_true (w : World) : Calls Try.prog 7 #[] w fun e w' => e = .returned (.bool true) ∧ More w w' := by
  have hrow := fun w => law_row (.slice none 0 0) 0 0 13 5 (fun _ => 0) w (.inl ⟨rfl, _, _, rfl⟩) (fun _ h => by omega) (by decide) (by decide) (by decide) (by decide)
  rw [live_V, show rowN 0 0 5 = 5 from rfl] at hrow
  have e3 : rk 13 (near 3 5) = 2 := by decide
  have e9 : rk 13 (near 9 5) = 3 := by decide
  have z3 : near 3 5 = 3 := by decide
  go_enter Try.func7, Try.ntmps7
  go_wp2_with (first
    | (go_at_call 9; refine (hrow _).mono ?_; rintro e w1 ⟨b, rfl, hr, hm⟩; have H1 := Hid.mk (And.intro hr hm); clear hr hm hrow)
    | (go_at_call 8; refine (dir_new _ 13 5 w1 (RowOr.row H1.out.1)).mono ?_; rintro e w2 ⟨d, rfl, hd, hm⟩; have H2 := Hid.mk (And.intro hd.rd (More.trans H1.out.2 hm)); clear hd hm H1)
    | (go_at_call 12; refine (dir_rank d 13 5 _ w2 H2.out.1).mono ?_; rintro e w' ⟨rfl, hw'⟩; subst w')
    | (go_at_call 14; refine (dir_zeros d 13 5 _ w2 H2.out.1).mono ?_; rintro e w' ⟨rfl, hw'⟩; subst w')
    | (go_at_call 16; refine (dir_marks d 13 5 w2 H2.out.1.c1 (by decide)).mono ?_; rintro e w3 ⟨v', rfl, hown, hm⟩; have H3 := Hid.mk (And.intro (ird_of_own hown) (More.trans H2.out.2 hm)); clear hown hm)
    | (go_at_call 17; refine (ints_same _ _ 2 (mk 13 5) (fun j => if j = 0 then 0 else 3) _ ?q1 ?q2 ?q3 (by decide) (by decide)).mono ?_; rotate_left 3; rintro e w' ⟨rfl, m, hw'⟩; subst w'))
  case q1 => exact H3.out.1.more ((Below.refl _ _).alloc (Nat.le_refl _) _)
  case q2 => exact .inr ⟨_, _, rfl, by simp, fun j hj => by match j, hj with | 0, _ => simp | 1, _ => simp⟩
  case q3 => intro j hj; match j, hj with | 0, _ => decide | 1, _ => decide
  go_ret
  exact ⟨rfl, More.trans H3.out.2 (More.trans ((Below.refl _ _).alloc (Nat.le_refl _) _) (More.drewN _ m))⟩

end Go.Proofs.Ytmnkbdkhpnokgaa
