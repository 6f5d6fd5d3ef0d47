/-
  The chapter's example, told by the program: live() is true, whatever the world.
-/
import Derived.Test.YtbjdjidamocmoaaPackOf
namespace Go.Proofs.Ytbjdjidamocmoaa
open Go.RowKit

def three (i : Nat) : Nat := if i = 0 then 1 else if i = 1 then 5 else 6
theorem three_lt (j : Nat) : three j < 18446744073709551616 := by unfold three; split <;> (try split) <;> decide
theorem wid3 : wid three 3 = 3 := by decide +kernel
theorem pack3 : packV 3 three 3 = 425 := by decide +kernel

theorem rd_three (w : World) : Rd (w.alloc (.cells #[.int .u64 1, .int .u64 5, .int .u64 6] 31)) (.slice (some ⟨w.heap.size, 0, none⟩) 3 3) 3 three := by
  refine .inr ⟨w.heap.size, 0, 3, rfl, by simp, fun j hj => ?_⟩
  rcases (show j = 0 ∨ j = 1 ∨ j = 2 by omega) with rfl | rfl | rfl <;> simp [three]

theorem live_fit (w : World) : Calls Try.prog 11 #[.slice (some ⟨w.heap.size, 0, none⟩) 3 3] (w.alloc (.cells #[.int .u64 1, .int .u64 5, .int .u64 6] 31)) fun e w' => ∃ p, e = .returned (.pointer (some ⟨p, 0, none⟩)) ∧ PackAt w' w.heap.size p 425 3 3 ∧ Below w.heap.size w w' := by
  refine (pack_fit _ 3 three _ (rd_three w) (fun j _ => three_lt j) (by decide)).mono ?_
  rintro e w' ⟨p, rfl, hp, hm⟩
  rw [wid3, pack3] at hp
  obtain ⟨b, hb, hr⟩ := hp.mem
  refine ⟨p, rfl, ⟨by have := hp.lo; simp at this; omega, hp.wid, hp.num, b, hb, ?_⟩, ?_⟩
  · obtain ⟨v, hv, hown⟩ := hr.mem
    exact ⟨by have := hr.lo; simp at this; omega, hr.fit, hr.len, v, hv, own_lower hown (by simp)⟩
  · exact More.trans ((Below.refl w.heap.size w).alloc (Nat.le_refl _) _) hm

theorem live_rise : Rising (fun i => atV 425 3 3 i) 3 0 3 := by
  intro i h1 h2 _ _
  rcases (show i = 1 ∨ i = 2 by omega) with rfl | rfl <;> decide +kernel

theorem live_find (p : Nat) (w : World) (h : PackRd w p 425 3 3) : Calls Try.prog 19 #[.pointer (some ⟨p, 0, none⟩), .int .i64 0, .int .i64 3, .int .u64 2] w fun e w' => e = .returned (.int .i64 1) ∧ ∃ k, w' = w.drewN k := by
  refine (pack_find p 425 3 3 2 0 3 w h live_rise).mono ?_
  rintro e w' ⟨r, rfl, hr, hk⟩
  have h1 : IsFind (fun i => atV 425 3 3 i) 3 0 3 2 1 := .inr ⟨1, rfl, by decide, by decide, by decide, by decide +kernel, fun j hj _ => by
    obtain rfl : j = 0 := by omega
    decide +kernel⟩
  rw [hr.unique h1]
  exact ⟨rfl, hk⟩

theorem live_at (p : Nat) (w : World) (h : PackRd w p 425 3 3) : Calls Try.prog 12 #[.pointer (some ⟨p, 0, none⟩), .int .i64 2] w fun e w' => e = .returned (.int .u64 6) ∧ ∃ k, w' = w.drewN k := by
  have := pack_at p 425 3 3 2 w h
  rwa [show atV 425 3 3 2 = 6 by decide +kernel] at this

theorem live_words (base p : Nat) (w : World) (h : PackAt w base p 425 3 3) : Calls Try.prog 15 #[.pointer (some ⟨p, 0, none⟩)] w fun e w' => ∃ v', e = .returned v' ∧ w'.ownsRow w.heap.size 31 1 v' 1 (u64s (fun _ => 425) 1) ∧ More w w' := by
  have := pack_words base p 425 3 3 w h
  have e : ∀ i, i < 1 → wd 425 i = (fun _ => 425) i := fun i hi => by
    obtain rfl : i = 0 := by omega
    decide +kernel
  rwa [show nw (3 * 3) = 1 by decide +kernel, u64s_congr e] at this

theorem rd_one (w : World) : Rd (w.alloc (.cells #[.int .u64 425] 31)) (.slice (some ⟨w.heap.size, 0, none⟩) 1 1) 1 (fun _ => 425) := by
  refine .inr ⟨w.heap.size, 0, 1, rfl, by simp, fun j hj => ?_⟩
  obtain rfl : j = 0 := by omega
  simp

theorem live (w : World) : Calls Try.prog 7 #[] w fun e w' => e = .returned (.bool true) ∧ More w w' := by
  have hfit := live_fit w
  go_enter Try.func7, Try.ntmps7
  go_wp2_with (first
    | (go_at_call 11; refine hfit.mono ?_; rintro e w1 ⟨p, rfl, hp, hb⟩; have H1 := Hid.mk (And.intro hp hb); clear hp hb)
    | (go_at_call 14; refine (pack_width p _ 3 3 _ H1.out.1.rd).mono ?_; rintro e w2 ⟨rfl, hw⟩; subst w2)
    | (go_at_call 13; refine (pack_len p _ 3 3 _ H1.out.1.rd).mono ?_; rintro e w2 ⟨rfl, hw⟩; subst w2)
    | (go_at_call 12; refine (live_at p _ H1.out.1.rd).mono ?_; rintro e w2 ⟨rfl, m2, hw⟩; subst w2)
    | (go_at_call 19; refine (live_find p _ (H1.out.1.rd.drewN _)).mono ?_; rintro e w3 ⟨rfl, m3, hw⟩; subst w3)
    | (go_at_call 15; refine (live_words _ p _ (H1.out.1.more (More.drewN _ _))).mono ?_; rintro e w4 ⟨v4, rfl, hown4, hm4⟩; have H4 := Hid.mk (And.intro hown4 (More.trans (More.drewN _ _) hm4)); clear hown4 hm4; obtain ⟨ao4, cap4, hs4⟩ := shape_of H4.out.1; subst hs4)
    | (go_at_call 22; refine (same_as _ _ 1 (fun _ => 425) _ (Rd.more (rd_of_own H4.out.1) ((Below.refl w4.heap.size w4).alloc (Nat.le_refl _) _)) (rd_one w4) (by decide)).mono ?_; rintro e w5 ⟨rfl, m5, hw⟩; subst w5))
  go_ret
  exact ⟨rfl, More.trans (More.trans H1.out.2 H4.out.2) (More.trans ((Below.refl w4.heap.size w4).alloc (Nat.le_refl _) _) (More.drewN _ _))⟩

end Go.Proofs.Ytbjdjidamocmoaa
