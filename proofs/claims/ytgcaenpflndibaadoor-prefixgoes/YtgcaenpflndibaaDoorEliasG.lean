/-
  elias: Next, Ahead, Find, Size; of nil too.
-/
import Derived.Test.YtgcaenpflndibaaDoorEliasF
namespace Go.Proofs.YtgcaenpflndibaaDoor
open Go.RowKit

theorem el_ahead (base s : Nat) (v : Int) (f : Nat → Nat) (n : Nat) (w : World) (h : SeqAt w base s f n) (hv : -9223372036854775808 ≤ v) :
    Calls Tryd.prog 19 #[.pointer (some ⟨s, 0, none⟩), .int .i64 v] w fun e w' => e = .returned (.tuple #[.int .i64 (aheadZ f n v), .int .i64 (atZ f n (aheadZ f n v))]) ∧ More w w' := by
  have hb := el_below base s (min v 1099511627776 + 1) f n w h
  have ht := fun w1 (hm : More w w1) => el_told base s f n ((belI f (min v 1099511627776 + 1) n : Nat) - 1) w1 (h.more hm)
  have hle := belI_le f (min v 1099511627776 + 1) n
  have hn := h.num
  unfold aheadZ
  rw [atZ_place]
  generalize belI f (min v 1099511627776 + 1) n = B at *
  generalize placeZ n ((B : Int) - 1) = Y at *
  generalize atZ f n ((B : Int) - 1) = Z at *
  obtain ⟨m, hm⟩ : ∃ m, min v 1099511627776 = m := ⟨_, rfl⟩
  rw [hm] at hb
  have hm1 : -9223372036854775808 ≤ m := by omega
  have hm2 : m ≤ 1099511627776 := by omega
  clear h
  go_enter Tryd.func19, Tryd.ntmps19
  go_wp2_with (first
    | (go_at_call 30; refine hb.mono ?_; rintro e w1 ⟨rfl, hm⟩; have H1 := Hid.mk hm; clear hm hb)
    | (go_at_call 29; refine (ht _ H1.out).mono ?_; rintro e w2 ⟨rfl, hm⟩; have H2 := Hid.mk (More.trans H1.out hm); clear hm ht))
  go_ret2
  exact ⟨rfl, H2.out⟩
theorem eln_ahead (v : Int) (w : World) : Calls Tryd.prog 19 #[.pointer none, .int .i64 v] w fun e w' => e = .returned (.tuple #[.int .i64 (-1), .int .i64 (-1)]) ∧ w' = w := by
  go_enter Tryd.func19, Tryd.ntmps19
  go_wp2_with (first
    | (go_at_call 30; refine (eln_below _ _).mono ?_; rintro e w' ⟨rfl, hw⟩; subst w')
    | (go_at_call 29; refine (eln_told _ _).mono ?_; rintro e w' ⟨rfl, hw⟩; subst w'))
  go_ret2
  exact ⟨rfl, rfl⟩

end Go.Proofs.YtgcaenpflndibaaDoor
