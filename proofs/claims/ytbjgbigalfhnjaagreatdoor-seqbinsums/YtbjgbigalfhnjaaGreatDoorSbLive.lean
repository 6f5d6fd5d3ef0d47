/-
  The chapter's example, told by the program.
-/
import Derived.Test.YtbjgbigalfhnjaaGreatDoorSet21
namespace Go.Proofs.YtbjgbigalfhnjaaGreatDoor
open Go.RowKit

def f3 (i : Nat) : Nat := if i = 0 then 3 else if i = 1 then 4 else 7
theorem f3_climbs : Climbs f3 3 := ⟨fun i hi => by unfold f3; split; decide; split <;> decide, fun i hi => by
  rcases (show i = 0 ∨ i = 1 by omega) with rfl | rfl <;> decide⟩
theorem f3_bytes : seqB f3 3 = [3, 7, 85, 1] := by
  rw [seqB_some f3 (by decide), num_small (by decide), num_small (by decide), show rby (seqV f3 (wdt f3 3) 3) (seqN f3 (wdt f3 3) 3) = [85, 1] by decide]
  decide
theorem keeps_more {T : TypeId → Prop} {base : Nat} {w w1 w2 : World} (k : KeepsT T base w1 w2) (hm : More w w1) (hb : w.heap.size ≤ base) : More w w2 := Below.trans hm (k.below.mono hb)
theorem lit3 (w : World) : ZRd (w.alloc (.cells #[.int .i64 3, .int .i64 4, .int .i64 7] 3)) (.slice (some ⟨w.heap.size, 0, none⟩) 3 3) 3 (fun j => (f3 j : Int)) := by
  refine .inr ⟨w.heap.size, 0, 3, rfl, by simp, fun j hj => ?_⟩
  have h := heap_alloc_new w (.cells #[.int .i64 3, .int .i64 4, .int .i64 7] 3)
  rcases (show j = 0 ∨ j = 1 ∨ j = 2 by omega) with rfl | rfl | rfl <;> (simp only [World.cell?]; rw [h]; rfl)

set_option maxHeartbeats 1600000 in
set_option maxRecDepth 1000000 in
theorem sb_live (w : World) (hT : TabIn w) : Calls Tryz.prog 4 #[] w fun e w' => e = .returned (.bool true) ∧ More w w' := by
  have hb0 := tab_pos hT
  have hnew := fun w1 => el_new _ 3 f3 (w1.alloc (.cells #[.int .i64 3, .int .i64 4, .int .i64 7] 3)) (lit3 w1) f3_climbs (by decide)
  have hopen : ∀ w, Calls Tryz.prog 9 #[.string { data := #[3, 7, 85, 1] }] w fun e w' => e = .returned (.pointer (some ⟨w.heap.size, 0, none⟩)) ∧ RdAt w' w.heap.size w.heap.size [3, 7, 85, 1] 0 0 ∧ More w w' := fun w => rd_open [3, 7, 85, 1] (by decide) w
  have hbytes : ∀ base b (w1 : World), WrAt w1 base b [3, 7, 85, 1] → Calls Tryz.prog 10 #[.pointer (some ⟨b, 0, none⟩)] w1 fun e w' => e = .returned (.string { data := #[3, 7, 85, 1] }) ∧ w' = w1 := fun base b w1 h => wr_bytes base b [3, 7, 85, 1] w1 h
  have HH := Hid.mk hT
  clear hT
  go_enter Tryz.func4, Tryz.ntmps4
  go_wp2_with (first
    | (go_at_call 20; refine (hnew _).mono ?_; rintro e w1 ⟨s, rfl, hs1, hm1⟩; have hw1 := More.trans (More.alloc w _) hm1; have H1 := Hid.mk (And.intro hs1 (And.intro hw1 (More.tab HH.out hw1))); clear hs1 hm1 hw1)
    | (go_at_call 19; refine (sb_putSeq w1.heap.size w1.heap.size _ s f3 3 [] _ (WrAt.new w1) (tab_pos H1.out.2.2) (H1.out.1.more (More.alloc _ _)) (More.tab H1.out.2.2 (More.alloc _ _)) (by decide) (by decide)).mono ?_; rintro e w2 ⟨rfl, hw2, hk2⟩; rw [List.nil_append, f3_bytes] at hw2; have hm2 : More w1 w2 := Below.trans (More.alloc w1 _) (hk2.below); have H2 := Hid.mk (And.intro hw2 (And.intro hm2 (More.tab H1.out.2.2 hm2))); clear hw2 hk2 hm2)
    | (go_at_call 9; refine (hopen w2).mono ?_; rintro e w3 ⟨rfl, hr3, hm3⟩; have H3 := Hid.mk (And.intro hr3 (And.intro hm3 (More.tab H2.out.2.2 hm3))); clear hr3 hm3)
    | (go_at_call 21; refine (sb_getBack f3_climbs (by decide) w2.heap.size w2.heap.size [] [3, 7, 85, 1] w3 (by rw [f3_bytes, List.append_nil]) H3.out.1 H3.out.2.2 (tab_pos H2.out.2.2)).mono ?_; rintro e w4 ⟨q, g, rfl, hq4, hg4, hr4, hk4⟩; have hm4 : More w2 w4 := Below.trans H3.out.2.1 hk4.below
       have hA1 := fun w h => el_at w3.heap.size q g 3 1 w h
       have hA2 := fun w h => el_last w3.heap.size q g 3 w h
       rw [show atZ g 3 1 = 4 by rw [show (1 : Int) = ((1 : Nat) : Int) from rfl, atZ_in g 3 1 (by decide), hg4 1 (by decide)]; rfl] at hA1
       rw [show atZ g 3 (((3 : Nat) : Int) - 1) = 7 by rw [show ((3 : Nat) : Int) - 1 = ((2 : Nat) : Int) from rfl, atZ_in g 3 2 (by decide), hg4 2 (by decide)]; rfl] at hA2
       have H4 := Hid.mk (And.intro hq4 (And.intro hm4 (H2.out.1.more hm4))); clear hq4 hg4 hr4 hk4 hm4)
    | (go_at_call 10; refine (hbytes _ _ w4 H4.out.2.2).mono ?_; rintro e w' ⟨rfl, hw⟩; subst w')
    | (go_at_call 22; refine (el_len _ q g 3 w4 H4.out.1).mono ?_; rintro e w' ⟨rfl, hw⟩; subst w')
    | (go_at_call 23; refine (hA1 w4 H4.out.1).mono ?_; rintro e w5 ⟨rfl, hm5⟩; have H5 := Hid.mk hm5; clear hm5 hA1)
    | (go_at_call 24; refine (hA2 w5 (H4.out.1.more H5.out)).mono ?_; rintro e w6 ⟨rfl, hm6⟩; have H6 := Hid.mk (More.trans H5.out hm6); clear hm6 hA2))
  go_ret
  exact ⟨rfl, More.trans (More.trans (More.trans H1.out.2.1 H2.out.2.1) H4.out.2.1) H6.out⟩

end Go.Proofs.YtbjgbigalfhnjaaGreatDoor
