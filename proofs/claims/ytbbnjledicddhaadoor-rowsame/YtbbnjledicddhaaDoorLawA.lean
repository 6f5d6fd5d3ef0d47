/-
  RowAdds and RowTells, walked: bits come behind one another; what a row tells of them.
-/
import Derived.Test.YtbbnjledicddhaaDoorBuilt
import Derived.Test.YtbbnjledicddhaaDoorRowLive
namespace Go.Proofs.YtbbnjledicddhaaDoor
open Go.RowKit

theorem Keeps.more {w w' : World} (h : Keeps w.heap.size w w') : More w w' := h.below

theorem same_as (a b : Value) (K : Nat) (f : Nat → Nat) (w : World) (h : Rd w a K f) (h' : Rd w b K f) (hK : K ≤ 1099511627776) :
    Calls Tryd.prog 10 #[a, b] w fun e w' => e = .returned (.bool true) ∧ ∃ m, w' = w.drewN m := by
  refine (ref_same a b K K f f w h h' hK hK).mono ?_
  rintro e w' ⟨r, rfl, hr, hm⟩
  rw [hr.2 ⟨rfl, fun _ _ => rfl⟩]
  exact ⟨rfl, hm⟩

set_option maxRecDepth 1000000 in
theorem rowAdds (v : Value) (K : Nat) (pW : Nat → Nat) (pN : Nat → Int) (w : World) (h : PRd w v K pW pN) (hK : K ≤ 9223372036854775807) (hT : TabIn w) :
    Calls Tryd.prog 3 #[v] w fun e w' => e = .returned (.bool true) ∧ Below w.heap.size w w' := by
  by_cases hbig : 100 < K
  · obtain ⟨ao, cap, rfl⟩ := h.shape
    have hl := live w hT
    clear h hT
    go_enter Tryd.func3, Tryd.ntmps3
    go_wp2_with (go_at_call 7; refine hl.mono ?_; rintro e w' ⟨rfl, hm⟩)
    go_ret
    exact ⟨rfl, hm⟩
  · have hb := built v K pW pN w h (by omega)
    obtain ⟨ao, cap, rfl⟩ := h.shape
    have HT : Hid _ := hT
    clear h hT
    go_enter Tryd.func3, Tryd.ntmps3
    go_wp2_with (first
      | (go_at_call 8; refine hb.mono ?_; rintro e w1 ⟨b, vo, V, n, rfl, _, hn, hrow, hown, hbel⟩; have H1 := Hid.mk (And.intro hrow (And.intro hown (And.intro hbel hn))); clear hrow hown hbel hn; obtain ⟨ao1, cap1, rfl⟩ := shape_of H1.out.2.1)
      | (go_at_call 9; refine (row_len b n _ H1.out.1.rd.c1).mono ?_; rintro e w2 ⟨rfl, rfl⟩)
      | (go_at_call 11; refine (row_words _ b V n _ H1.out.1).mono ?_; rintro e w3 ⟨v3, rfl, hown3, hk3⟩; have H3 := Hid.mk (And.intro hown3 hk3.more); clear hown3 hk3; obtain ⟨ao3, cap3, rfl⟩ := shape_of H3.out.1)
      | (go_at_call 12; refine (ref_words _ n V _ (brd_of_own (More.own H1.out.2.1 H3.out.2)) H1.out.1.fit (by have := H1.out.2.2.2; omega)).mono ?_; rintro e w4 ⟨v4, rfl, hown4, hm4⟩; have H4 := Hid.mk (And.intro hown4 hm4); clear hown4 hm4; obtain ⟨ao4, cap4, rfl⟩ := shape_of H4.out.1)
      | (go_at_call 10; refine (same_as _ _ (nw n) (wd V) _ (rd_of_own (More.own H3.out.1 H4.out.2)) (rd_of_own H4.out.1) (by have := H1.out.2.2.2; unfold nw; omega)).mono ?_; rintro e w5 ⟨rfl, m5, rfl⟩)
      | (go_at_call 7; refine (live _ (More.tab HT.out (More.trans (More.trans (More.trans H1.out.2.2.1 H3.out.2) H4.out.2) (More.drewN _ _)))).mono ?_; rintro e w6 ⟨rfl, hm6⟩; have H6 := Hid.mk hm6; clear hm6))
    go_ret
    exact ⟨rfl, More.trans (More.trans (More.trans (More.trans H1.out.2.2.1 H3.out.2) H4.out.2) (More.drewN _ _)) H6.out⟩

theorem RowRd.brd {w : World} {base b V n : Nat} {v : Value} (h : RowAt w base b V n ∧ w.ownsRow base 4 1 v n (bools V n)) (m : Nat) : BRd (w.drewN m) v n V := brd_of_own (More.own h.2 (More.drewN _ _))

set_option maxRecDepth 1000000 in
theorem rowTells (v : Value) (K : Nat) (pW : Nat → Nat) (pN : Nat → Int) (a c : Int) (w : World) (h : PRd w v K pW pN) (hK : K ≤ 9223372036854775807) (hT : TabIn w) (a0 : -9223372036854775808 ≤ a) (a1 : a ≤ 9223372036854775807) :
    Calls Tryd.prog 4 #[v, .int .i64 a, .int .i64 c] w fun e w' => e = .returned (.bool true) ∧ Below w.heap.size w w' := by
  by_cases hbig : 40 < K
  · obtain ⟨ao, cap, rfl⟩ := h.shape
    have hl := live w hT
    clear h hT
    go_enter Tryd.func4, Tryd.ntmps4
    go_wp2_with (go_at_call 7; refine hl.mono ?_; rintro e w' ⟨rfl, hm⟩)
    go_ret
    exact ⟨rfl, hm⟩
  · have hb := built v K pW pN w h (by omega)
    obtain ⟨ao, cap, rfl⟩ := h.shape
    have HT : Hid _ := And.intro hT (And.intro a0 a1)
    clear h hT a0 a1
    go_enter Tryd.func4, Tryd.ntmps4
    go_wp2_with (first
      | (go_at_call 8; refine hb.mono ?_; rintro e w1 ⟨b, vo, V, n, rfl, _, hn, hrow, hown, hbel⟩; have H1 := Hid.mk (And.intro (And.intro hrow hown) (And.intro hbel (show n ≤ 1099511627776 by omega))); clear hrow hown hbel hn; obtain ⟨ao1, cap1, rfl⟩ := shape_of H1.out.1.2)
      | (go_at_call 13; refine (row_bit b V n a _ H1.out.1.1.rd HT.out.2.1 HT.out.2.2).mono ?_; rintro e w2 ⟨rfl, m2, rfl⟩)
      | (go_at_call 14; refine (ref_bit _ n V a _ (RowRd.brd H1.out.1 _) H1.out.1.1.fit H1.out.2.2).mono ?_; rintro e w3 ⟨rfl, hw⟩; subst hw)
      | (go_at_call 15; refine (row_cut b V n a c _ (H1.out.1.1.rd.drewN _) HT.out.2.1 HT.out.2.2).mono ?_; rintro e w4 ⟨rfl, m4, rfl⟩)
      | (go_at_call 16; refine (ref_cut _ n V a c _ (RowRd.brd H1.out.1 _) H1.out.1.1.fit H1.out.2.2 HT.out.2.1 HT.out.2.2).mono ?_; rintro e w5 ⟨rfl, hw⟩; subst hw)
      | (go_at_call 17; refine (row_ones b V n _ (H1.out.1.1.rd.drewN _)).mono ?_; rintro e w6 ⟨rfl, hw⟩; subst hw)
      | (go_at_call 18; refine (ref_ones _ n V _ (RowRd.brd H1.out.1 _) H1.out.2.2).mono ?_; rintro e w7 ⟨rfl, hw⟩; subst hw)
      | (go_at_call 19; refine (row_next b V n a _ (H1.out.1.1.rd.drewN _) (More.tab HT.out.1 (More.trans H1.out.2.1 (More.drewN _ _)))).mono ?_; rintro e w8 ⟨rfl, hw⟩; subst hw)
      | (go_at_call 20; refine (ref_next _ n V a _ (RowRd.brd H1.out.1 _) H1.out.2.2).mono ?_; rintro e w9 ⟨rfl, hw⟩; subst hw)
      | (go_at_call 7; refine (live _ (More.tab HT.out.1 (More.trans H1.out.2.1 (More.drewN _ _)))).mono ?_; rintro e wA ⟨rfl, hmA⟩; have HA := Hid.mk hmA; clear hmA))
    go_ret
    exact ⟨rfl, More.trans (More.trans H1.out.2.1 (More.drewN _ _)) HA.out⟩

end Go.Proofs.YtbbnjledicddhaaDoor
