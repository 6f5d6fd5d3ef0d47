/-
  elias: Next, Ahead, Find, Size; of nil too.
-/
import Derived.Test.YtheieibkbeckkaaDoorEliasF
namespace Go.Proofs.YtheieibkbeckkaaDoor
open Go.RowKit

theorem el_next (base s : Nat) (v : Int) (f : Nat → Nat) (n : Nat) (w : World) (h : SeqAt w base s f n) :
    Calls Tryd.prog 27 #[.pointer (some ⟨s, 0, none⟩), .int .i64 v] w fun e w' => e = .returned (.tuple #[.int .i64 (nextZ f n v), .int .i64 (atZ f n (nextZ f n v))]) ∧ More w w' := by
  have hb := el_below base s v f n w h
  have ht := fun w1 (hm : More w w1) => el_told base s f n (belI f v n : Nat) w1 (h.more hm)
  unfold nextZ
  rw [atZ_place]
  generalize belI f v n = B at *
  generalize placeZ n (B : Int) = Y at *
  generalize atZ f n (B : Int) = Z at *
  clear h
  go_enter Tryd.func27, Tryd.ntmps27
  go_wp2_with (first
    | (go_at_call 45; refine hb.mono ?_; rintro e w1 ⟨rfl, hm⟩; have H1 := Hid.mk hm; clear hm hb)
    | (go_at_call 44; refine (ht _ H1.out).mono ?_; rintro e w2 ⟨rfl, hm⟩; have H2 := Hid.mk (More.trans H1.out hm); clear hm ht))
  go_ret2
  exact ⟨rfl, H2.out⟩
theorem eln_next (v : Int) (w : World) : Calls Tryd.prog 27 #[.pointer none, .int .i64 v] w fun e w' => e = .returned (.tuple #[.int .i64 (-1), .int .i64 (-1)]) ∧ w' = w := by
  go_enter Tryd.func27, Tryd.ntmps27
  go_wp2_with (first
    | (go_at_call 45; refine (eln_below _ _).mono ?_; rintro e w' ⟨rfl, hw⟩; subst w')
    | (go_at_call 44; refine (eln_told _ _).mono ?_; rintro e w' ⟨rfl, hw⟩; subst w'))
  go_ret2
  exact ⟨rfl, rfl⟩

end Go.Proofs.YtheieibkbeckkaaDoor
