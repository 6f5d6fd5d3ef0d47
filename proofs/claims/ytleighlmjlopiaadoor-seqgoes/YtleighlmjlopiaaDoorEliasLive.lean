/-
  The chapter's example holds.
-/
import Derived.Test.YtleighlmjlopiaaDoorEliasRefB
namespace Go.Proofs.YtleighlmjlopiaaDoor
open Go.RowKit

def f8 (i : Nat) : Nat := [3, 4, 7, 13, 14, 15, 21, 43].getD i 0
theorem f8_climbs : Climbs f8 8 := ⟨by decide, fun i hi => (show ∀ i, i < 7 → f8 i ≤ f8 (i + 1) by decide) i (by omega)⟩
theorem f8_rd (w : World) : ZRd (w.alloc (.cells #[.int .i64 3, .int .i64 4, .int .i64 7, .int .i64 13, .int .i64 14, .int .i64 15, .int .i64 21, .int .i64 43] 3)) (.slice (some ⟨w.heap.size, 0, none⟩) 8 8) 8 (fun j => (f8 j : Int)) := by
  refine .inr ⟨w.heap.size, 0, 8, rfl, by simp, fun j hj => ?_⟩
  rcases (show j = 0 ∨ j = 1 ∨ j = 2 ∨ j = 3 ∨ j = 4 ∨ j = 5 ∨ j = 6 ∨ j = 7 by omega) with rfl | rfl | rfl | rfl | rfl | rfl | rfl | rfl <;> simp [f8]

set_option maxHeartbeats 800000 in
set_option maxRecDepth 1000000 in
theorem el_live (w : World) : Calls Tryd.prog 5 #[] w fun e w' => e = .returned (.bool true) ∧ More w w' := by
  have hnew := el_new _ 8 f8 _ (f8_rd w) f8_climbs (by decide)
  have hnx : ∀ (s base : Nat) (w : World), SeqAt w base s f8 8 → Calls Tryd.prog 9 #[.pointer (some ⟨s, 0, none⟩), .int .i64 8] w fun e w' => e = .returned (.tuple #[.int .i64 3, .int .i64 13]) ∧ More w w' := fun s base w h => by
    have := el_next base s 8 f8 8 w h
    rwa [show nextZ f8 8 8 = 3 by decide +kernel, show atZ f8 8 3 = 13 by decide +kernel] at this
  have hah : ∀ (s base : Nat) (w : World), SeqAt w base s f8 8 → Calls Tryd.prog 10 #[.pointer (some ⟨s, 0, none⟩), .int .i64 12] w fun e w' => e = .returned (.tuple #[.int .i64 2, .int .i64 7]) ∧ More w w' := fun s base w h => by
    have := el_ahead base s 12 f8 8 w h (by decide)
    rwa [show aheadZ f8 8 12 = 2 by decide +kernel, show atZ f8 8 2 = 7 by decide +kernel] at this
  have hfi : ∀ (s base : Nat) (w : World), SeqAt w base s f8 8 → Calls Tryd.prog 11 #[.pointer (some ⟨s, 0, none⟩), .int .i64 2, .int .i64 6, .int .i64 14] w fun e w' => e = .returned (.int .i64 4) ∧ More w w' := fun s base w h => by
    have := el_find base s 2 6 14 f8 8 w h
    rwa [show findZ f8 8 2 6 14 = 4 by decide +kernel] at this
  have hsi : ∀ (s base : Nat) (w : World), SeqAt w base s f8 8 → Calls Tryd.prog 12 #[.pointer (some ⟨s, 0, none⟩)] w fun e w' => e = .returned (.int .i64 34) ∧ More w w' := fun s base w h => by
    have := el_size base s f8 8 w h
    rwa [show ((sizeN f8 (wdt f8 8) 8 : Nat) : Int) = 34 by decide +kernel] at this
  go_enter Tryd.func5, Tryd.ntmps5
  go_wp2_with (first
    | (go_at_call 6; refine hnew.mono ?_; rintro e w1 ⟨s, rfl, hs, hm⟩; have H1 := Hid.mk (And.intro hs (More.trans (more_alloc w _) hm)); clear hs hm hnew)
    | (go_at_call 9; refine (hnx s _ w1 H1.out.1).mono ?_; rintro e w2 ⟨rfl, hm⟩; have H2 := Hid.mk (And.intro (H1.out.1.more hm) (More.trans H1.out.2 hm)); clear hm hnx)
    | (go_at_call 10; refine (hah s _ w2 H2.out.1).mono ?_; rintro e w3 ⟨rfl, hm⟩; have H3 := Hid.mk (And.intro (H2.out.1.more hm) (More.trans H2.out.2 hm)); clear hm hah)
    | (go_at_call 11; refine (hfi s _ w3 H3.out.1).mono ?_; rintro e w4 ⟨rfl, hm⟩; have H4 := Hid.mk (And.intro (H3.out.1.more hm) (More.trans H3.out.2 hm)); clear hm hfi)
    | (go_at_call 12; refine (hsi s _ w4 H4.out.1).mono ?_; rintro e w5 ⟨rfl, hm⟩; have H5 := Hid.mk (More.trans H4.out.2 hm); clear hm hsi))
  go_ret
  exact ⟨rfl, H5.out⟩

end Go.Proofs.YtleighlmjlopiaaDoor
