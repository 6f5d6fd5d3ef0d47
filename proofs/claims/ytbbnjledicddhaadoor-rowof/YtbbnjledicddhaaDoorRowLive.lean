/-
  The chapter's example, told by the program: live() is true, whatever the world.
-/
import Derived.Test.YtbbnjledicddhaaDoorRefB
import Derived.Deep.RegionWith
namespace Go.Proofs.YtbbnjledicddhaaDoor
open Go.RowKit

theorem live_add1 (base b : Nat) (w : World) (h : RowAt w base b 0 0) (hsz : base ≤ w.heap.size) :
    Calls Tryd.prog 24 #[.pointer (some ⟨b, 0, none⟩), .int .u64 5, .int .i64 3] w fun e w' => e = .returned (.int .i64 0) ∧ RowAt w' base b 5 3 ∧ Keeps base w w' := by
  have := row_add base b 0 0 5 3 w h hsz (by decide) (by decide)
  rwa [show addErr 5 3 = 0 by decide +kernel, show addV 0 0 5 3 = 5 by decide +kernel, show addN 0 5 3 = 3 by decide +kernel] at this
theorem live_add2 (base b : Nat) (w : World) (h : RowAt w base b 5 3) (hsz : base ≤ w.heap.size) :
    Calls Tryd.prog 24 #[.pointer (some ⟨b, 0, none⟩), .int .u64 1, .int .i64 2] w fun e w' => e = .returned (.int .i64 0) ∧ RowAt w' base b 13 5 ∧ Keeps base w w' := by
  have := row_add base b 5 3 1 2 w h hsz (by decide) (by decide)
  rwa [show addErr 1 2 = 0 by decide +kernel, show addV 5 3 1 2 = 13 by decide +kernel, show addN 3 1 2 = 5 by decide +kernel] at this
theorem live_len (b : Nat) (w : World) (h : RowRd w b 13 5) : Calls Tryd.prog 9 #[.pointer (some ⟨b, 0, none⟩)] w fun e w' => e = .returned (.int .i64 5) ∧ w' = w := row_len b 5 w h.c1
theorem live_cut (b : Nat) (w : World) (h : RowRd w b 13 5) : Calls Tryd.prog 15 #[.pointer (some ⟨b, 0, none⟩), .int .i64 1, .int .i64 3] w fun e w' => e = .returned (.int .u64 6) ∧ ∃ k, w' = w.drewN k := by
  have := row_cut b 13 5 1 3 w h (by decide) (by decide)
  rwa [show cutV 13 1 (min 64 (Int.toNat 3)) = 6 by decide +kernel] at this
theorem live_next (b : Nat) (w : World) (h : RowRd w b 13 5) (hT : TabIn w) : Calls Tryd.prog 19 #[.pointer (some ⟨b, 0, none⟩), .int .i64 1] w fun e w' => e = .returned (.int .i64 2) ∧ w' = w := by
  have := row_next b 13 5 1 w h hT
  rwa [show nextV 13 1 5 = 2 by decide +kernel] at this
theorem live_ones (b : Nat) (w : World) (h : RowRd w b 13 5) : Calls Tryd.prog 17 #[.pointer (some ⟨b, 0, none⟩)] w fun e w' => e = .returned (.int .i64 3) ∧ w' = w := by
  have := row_ones b 13 5 w h
  rwa [show rk 13 5 = 3 by decide +kernel] at this

theorem live (w : World) (hT : TabIn w) : Calls Tryd.prog 7 #[] w fun e w' => e = .returned (.bool true) ∧ More w w' := by
  have hrow0 : RowAt (w.alloc (.cells #[.slice none 0 0, .int .i64 0] 58)) w.heap.size w.heap.size 0 0 :=
    ⟨Nat.le_refl _, by decide, by decide, _, heap_alloc_new _ _, World.ownsRow_nil _ _ _ _⟩
  have H0 : Hid _ := And.intro hrow0 (And.intro ((Below.refl w.heap.size w).alloc (Nat.le_refl _) (.cells #[.slice none 0 0, .int .i64 0] 58)) hT)
  clear hrow0 hT
  go_enter Tryd.func7, Tryd.ntmps7
  go_wp2_with (first
    | (go_at_call 25; refine (new_row _).mono ?_; rintro e w' ⟨rfl, rfl⟩)
    | (go_at_call_of 24 (Value.int .u64 5); refine (live_add1 w.heap.size w.heap.size _ H0.out.1 H0.out.2.1.size).mono ?_; rintro e w1 ⟨rfl, hr1, hk1⟩; have H1 := Hid.mk (And.intro hr1 (H0.out.2.1.trans hk1.below)); clear hr1 hk1)
    | (go_at_call_of 24 (Value.int .u64 1); refine (live_add2 w.heap.size w.heap.size _ H1.out.1 H1.out.2.size).mono ?_; rintro e w2 ⟨rfl, hr2, hk2⟩; have H2 := Hid.mk (And.intro hr2.rd (H1.out.2.trans hk2.below)); clear hr2 hk2)
    | (go_at_call 9; refine (live_len _ _ H2.out.1).mono ?_; rintro e w3 ⟨rfl, rfl⟩)
    | (go_at_call 15; refine (live_cut _ _ H2.out.1).mono ?_; rintro e w4 ⟨rfl, m4, rfl⟩)
    | (go_at_call 19; refine (live_next _ _ (H2.out.1.drewN _) (More.tab H0.out.2.2 (More.trans H2.out.2 (More.drewN _ _)))).mono ?_; rintro e w5 ⟨rfl, hw5⟩; subst hw5)
    | (go_at_call 17; refine (live_ones _ _ (H2.out.1.drewN _)).mono ?_; rintro e w6 ⟨rfl, hw6⟩; subst hw6))
  go_ret
  exact ⟨rfl, More.trans H2.out.2 (More.drewN _ _)⟩

end Go.Proofs.YtbbnjledicddhaaDoor
