/-
  The chapter's example holds.
-/
import Derived.Test.YtgcjbkcfcklcfaaDoorStreamLawA
namespace Go.Proofs.YtgcjbkcfcklcfaaDoor
open Go.RowKit

theorem live_1 : cdE 2 5 0 = 0 ∧ wrV 2 0 0 5 0 = 12 ∧ wrN 2 0 5 0 = 5 := by decide +kernel
theorem live_2 : cdE 3 9 2 = 0 ∧ wrV 3 12 5 9 2 = 396 ∧ wrN 3 5 9 2 = 10 := by decide +kernel
theorem live_3 : rdG (396 / 2 ^ 0) (10 - 0) = (5, 5, 0) := by decide +kernel
theorem live_4 : rdR (396 / 2 ^ 5) (10 - 5) 2 = (9, 5, 0) := by decide +kernel
theorem live_5 : cutV 396 0 (min 64 (Int.toNat 10)) = 396 := by decide +kernel

set_option maxHeartbeats 1600000 in
set_option maxRecDepth 1000000 in
theorem live_true (w : World) (hT : TabIn w) : Calls Tryd.prog 7 #[] w fun e w' => e = .returned (.bool true) ∧ More w w' := by
  have h0 : 0 < w.heap.size := World.block_lt_of_cell? w ⟨0, 0, none⟩ (hT 0 (by omega))
  have hw1 := wr_gamma w.heap.size w.heap.size 0 0 5 0 _ (WrAt.new w) (by decide) (by decide)
  rw [live_1.1, live_1.2.1, live_1.2.2] at hw1
  have hw2 := fun w' (h : WrAt w' w.heap.size w.heap.size 12 5) => wr_rice w.heap.size w.heap.size 12 5 9 2 3 w' h (by decide) (by decide) (by decide)
  rw [live_2.1, live_2.2.1, live_2.2.2] at hw2
  have hr := fun w' (h : WrAt w' w.heap.size w.heap.size 396 10) => wr_row w.heap.size w.heap.size 396 10 w' h
  have hg := fun base b w' (h : RdAt w' base b 396 10 0 0) (hT : TabIn w') => rdr_gamma base b 396 10 0 5 5 0 w' h hT live_3
  have hi := fun base b w' (h : RdAt w' base b 396 10 5 0) (hT : TabIn w') => rdr_rice base b 396 10 5 9 5 0 2 w' h hT live_4
  have hl := fun base b w' (h : RdAt w' base b 396 10 5 0) => rdr_left base b 396 10 5 0 w' h
  have he := fun base b w' (h : RdAt w' base b 396 10 10 0) => rdr_end base b 396 10 10 0 w' h
  rw [show endE 10 10 0 = 0 by decide] at he
  have hc := fun b w' (h : RowRd w' b 396 10) => row_cut b 396 10 0 10 w' h (by decide) (by decide)
  rw [live_5] at hc
  have HK := Hid.mk ((Keeps.refl w.heap.size w).alloc (Nat.le_refl _) (.cells #[.pointer none] 27))
  have HT := Hid.mk (fun (w' : World) (h : Below w.heap.size w w') => hT.below h h0)
  have T1 : Hid True := trivial
  clear hT h0
  go_enter Tryd.func7, Tryd.ntmps7
  go_wp2_with (first
    | (go_at_call 24; refine hw1.mono ?_; rintro e w1 ⟨rfl, ha, hb⟩; have H1 := Hid.mk (And.intro ha (HK.out.trans hb)); clear ha hb hw1)
    | (go_at_call 25; refine (hw2 w1 H1.out.1).mono ?_; rintro e w2 ⟨rfl, ha, hb⟩; have H2 := Hid.mk (And.intro ha (H1.out.2.trans hb)); clear ha hb hw2)
    | (go_at_call 11; have T2 := T1; clear T1; refine (hr w2 H2.out.1).mono ?_; rintro e w3 ⟨c, rfl, ha, hb⟩; have H3 := Hid.mk (And.intro ha (And.intro hb (H2.out.2.below.trans (hb.mono H2.out.1.sz)))); clear ha hb)
    | (go_at_call 17; refine (rd_open _ 396 10 w3 (RowHas.row H3.out.1)).mono ?_; rintro e w4 ⟨rb, rfl, ha, hb⟩; have H4 := Hid.mk (And.intro ha (And.intro (More.trans H3.out.2.1 hb) (H3.out.2.2.trans (hb.mono H3.out.2.2.size)))); clear ha hb)
    | (go_at_call 11; refine (hr w4 (H2.out.1.more H4.out.2.1)).mono ?_; rintro e w5 ⟨c2, rfl, ha, hb⟩; have H5 := Hid.mk (And.intro ha (And.intro (H4.out.1.more hb) (H4.out.2.2.trans (hb.mono H4.out.2.2.size)))); clear ha hb)
    | (go_at_call 26; refine (hc c2 w5 H5.out.1.rd).mono ?_; rintro e w6 ⟨rfl, m6, hw6⟩; have hm6 := More.drewN w5 m6; rw [← hw6] at hm6; clear hw6; have H6 := Hid.mk (And.intro (H5.out.2.1.more hm6) (H5.out.2.2.trans (hm6.mono H5.out.2.2.size))); clear hm6)
    | (go_at_call 27; refine (hg _ rb w6 H6.out.1 (HT.out w6 H6.out.2)).mono ?_; rintro e w7 ⟨rfl, ha, hb⟩; have H7 := Hid.mk (And.intro ha (H6.out.2.trans (hb.mono H3.out.2.2.size))); clear ha hb)
    | (go_at_call 20; refine (hl _ rb w7 H7.out.1).mono ?_; rintro e w8 ⟨rfl, m8, hw8⟩; have hm8 := More.drewN w7 m8; rw [← hw8] at hm8; clear hw8; have H8 := Hid.mk (And.intro (H7.out.1.more hm8) (H7.out.2.trans (hm8.mono H7.out.2.size))); clear hm8)
    | (go_at_call 28; refine (hi _ rb w8 H8.out.1 (HT.out w8 H8.out.2)).mono ?_; rintro e w9 ⟨rfl, ha, hb⟩; have H9 := Hid.mk (And.intro ha (H8.out.2.trans (hb.mono H3.out.2.2.size))); clear ha hb)
    | (go_at_call 22; refine (he _ rb w9 H9.out.1).mono ?_; rintro e w10 ⟨rfl, m10, hw10⟩; have hm10 := More.drewN w9 m10; rw [← hw10] at hm10; clear hw10; have H10 := Hid.mk (H9.out.2.trans (hm10.mono H9.out.2.size)); clear hm10))
  go_ret
  exact ⟨rfl, H10.out⟩

end Go.Proofs.YtgcjbkcfcklcfaaDoor
