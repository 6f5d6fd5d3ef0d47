/-
  RowSame, walked: two rows are the same just if their bits are; nil has none.
-/
import Derived.Test.YtbbnjledicddhaaDoorLawA
namespace Go.Proofs.YtbbnjledicddhaaDoor
open Go.RowKit

theorem PRd.more {w w' : World} {v : Value} {K : Nat} {pW : Nat → Nat} {pN : Nat → Int} (h : PRd w v K pW pN) (k : More w w') : PRd w' v K pW pN := by
  rcases h with h | ⟨g, o, cap, rfl, hg, hc⟩
  · exact .inl h
  · exact .inr ⟨g, o, cap, rfl, Nat.lt_of_lt_of_le hg k.size, fun j hj => ⟨(k.cell (p := ⟨g, o + j * 2, none⟩) hg).trans (hc j hj).1, (k.cell (p := ⟨g, o + j * 2 + 1, none⟩) hg).trans (hc j hj).2.1, (hc j hj).2.2⟩⟩

theorem same_none_row (b V n : Nat) (w : World) (h : RowRd w b V n) : Calls Tryd.prog 23 #[.pointer none, .pointer (some ⟨b, 0, none⟩)] w fun e w' => e = .returned (.bool ((n : Int) == 0)) ∧ w' = w := by
  refine (same_short _ _ 0 n w (.none w) (.row h) (by omega) (by decide)).mono ?_
  rintro e w' ⟨rfl, rfl⟩
  refine ⟨?_, rfl⟩
  have : decide (0 = n) = ((n : Int) == 0) := by
    by_cases hn : n = 0
    · subst hn; rfl
    · have h1 : ¬ 0 = n := by omega
      have h2 : ((n : Int) == 0) = false := by simpa using hn
      simp [h1, h2]
  rw [this]
theorem same_row_none (b V n : Nat) (w : World) (h : RowRd w b V n) : Calls Tryd.prog 23 #[.pointer (some ⟨b, 0, none⟩), .pointer none] w fun e w' => e = .returned (.bool ((n : Int) == 0)) ∧ w' = w := by
  refine (same_short _ _ n 0 w (.row h) (.none w) (by omega) h.len).mono ?_
  rintro e w' ⟨rfl, rfl⟩
  refine ⟨?_, rfl⟩
  have : decide (n = 0) = ((n : Int) == 0) := by
    by_cases hn : n = 0
    · subst hn; rfl
    · have h2 : ((n : Int) == 0) = false := by simpa using hn
      simp [hn, h2]
  rw [this]

/-- The document's words of two rows of one length are the same just if the rows are. -/
theorem words_same (a b : Value) (n V U : Nat) (w : World) (h : Rd w a (nw n) (wd V)) (h' : Rd w b (nw n) (wd U)) (hV : V < 2 ^ n) (hU : U < 2 ^ n) (hn : n ≤ 1099511627776) :
    Calls Tryd.prog 10 #[a, b] w fun e w' => e = .returned (.bool (decide (n = n ∧ V = U))) ∧ ∃ m, w' = w.drewN m := by
  have hl : nw n ≤ 1099511627776 := by unfold nw; omega
  refine (ref_same a b _ _ _ _ w h h' hl hl).mono ?_
  rintro e w' ⟨r, rfl, hr, hm⟩
  refine ⟨?_, hm⟩
  have hiff : r = true ↔ V = U := hr.trans ⟨fun hh => eq_of_words hV hU hh.2, fun e => ⟨rfl, fun j _ => by rw [e]⟩⟩
  have : r = decide (n = n ∧ V = U) := by
    by_cases e : V = U
    · rw [hiff.2 e]; simp [e]
    · have : r = false := by
        cases r
        · rfl
        · exact absurd (hiff.1 rfl) e
      rw [this]; simp [e]
  rw [this]

set_option maxHeartbeats 800000 in
set_option maxRecDepth 1000000 in
theorem rowSame (v u : Value) (K L : Nat) (pW qW : Nat → Nat) (pN qN : Nat → Int) (i : Int) (w : World) (h : PRd w v K pW pN) (h' : PRd w u L qW qN) (hK : K ≤ 9223372036854775807) (hL : L ≤ 9223372036854775807) (hT : TabIn w) (a0 : -9223372036854775808 ≤ i) (a1 : i ≤ 9223372036854775807) :
    Calls Tryd.prog 6 #[v, u, .int .i64 i] w fun e w' => e = .returned (.bool true) ∧ Below w.heap.size w w' := by
  have hl := live w hT
  by_cases hbig : 20 < K
  · obtain ⟨ao, cap, rfl⟩ := h.shape
    obtain ⟨ao', cap', rfl⟩ := h'.shape
    clear h hT h'
    go_enter Tryd.func6, Tryd.ntmps6
    go_wp2_with (go_at_call 7; refine hl.mono ?_; rintro e w' ⟨rfl, hm⟩)
    go_ret
    exact ⟨rfl, hm⟩
  by_cases hbig2 : 20 < L
  · obtain ⟨ao, cap, rfl⟩ := h.shape
    obtain ⟨ao', cap', rfl⟩ := h'.shape
    clear h hT h'
    go_enter Tryd.func6, Tryd.ntmps6
    go_wp2_with (go_at_call 7; refine hl.mono ?_; rintro e w' ⟨rfl, hm⟩)
    go_ret
    exact ⟨rfl, hm⟩
  have hb := built v K pW pN w h (by omega)
  have hb2 := fun (w' : World) (hm : More w w') => built u L qW qN w' (h'.more hm) (by omega)
  obtain ⟨ao, cap, rfl⟩ := h.shape
  obtain ⟨ao', cap', rfl⟩ := h'.shape
  have HT : Hid _ := And.intro hT (And.intro a0 a1)
  have HB : Hid _ := hb2
  clear h h' hT a0 a1 hl hb2
  go_enter Tryd.func6, Tryd.ntmps6
  go_wp2_with (first
    | (go_at_call_of 8 (Value.slice ao K cap); refine hb.mono ?_; rintro e w1 ⟨b, vo, V, n, rfl, _, hn, hrow, hown, hbel⟩; have H1 := Hid.mk (And.intro hrow (And.intro hown (And.intro hbel hn))); clear hrow hown hbel hn; obtain ⟨ao1, cap1, rfl⟩ := shape_of H1.out.2.1)
    | (go_at_call_of 8 (Value.slice ao' L cap'); refine (HB.out _ H1.out.2.2.1).mono ?_; rintro e w2 ⟨c, vp, U, m, rfl, _, hm, hrow, hown, hbel⟩; have H2 := Hid.mk (And.intro hrow (And.intro hown (And.intro hbel hm))); clear hrow hown hbel hm; obtain ⟨ao2, cap2, rfl⟩ := shape_of H2.out.2.1))
  · rename_i hnm
    obtain rfl : n = m := by omega
    have R1 := Hid.mk (More.row H1.out.1 H2.out.2.2.1)
    go_wp2_with (first
      | (go_at_call_of 12 (Value.slice ao1 n cap1); refine (ref_words _ n V _ (brd_of_own (More.own H1.out.2.1 H2.out.2.2.1)) H1.out.1.fit (by have := H1.out.2.2.2; omega)).mono ?_; rintro e w3 ⟨v3, rfl, hown3, hm3⟩; have H3 := Hid.mk (And.intro hown3 hm3); clear hown3 hm3; obtain ⟨ao3, cap3, rfl⟩ := shape_of H3.out.1)
      | (go_at_call_of 12 (Value.slice ao2 n cap2); refine (ref_words _ n U _ (brd_of_own (More.own H2.out.2.1 H3.out.2)) H2.out.1.fit (by have := H2.out.2.2.2; omega)).mono ?_; rintro e w4 ⟨v4, rfl, hown4, hm4⟩; have H4 := Hid.mk (And.intro hown4 hm4); clear hown4 hm4; obtain ⟨ao4, cap4, rfl⟩ := shape_of H4.out.1; have F5 := Hid.mk (And.intro (More.row R1.out (More.trans H3.out.2 H4.out.2)).rd (And.intro (More.row H2.out.1 (More.trans H3.out.2 H4.out.2)).rd (More.trans (More.trans (More.trans H1.out.2.2.1 H2.out.2.2.1) H3.out.2) H4.out.2))))
      | (go_at_call 10; refine (words_same _ _ n V U _ (rd_of_own (More.own H3.out.1 H4.out.2)) (rd_of_own H4.out.1) H1.out.1.fit H2.out.1.fit H1.out.1.len).mono ?_; rintro e w5 ⟨rfl, m5, rfl⟩)
      | (go_at_call_of 23 (Value.pointer none); go_at_call_of 23 (Value.pointer (some ⟨b, 0, none⟩)); refine (same_none_row b V n _ (by first | exact F5.out.1 | exact F5.out.1.drewN _)).mono ?_; rintro e w6 ⟨rfl, hw⟩; subst hw)
      | (go_at_call_of 23 (Value.pointer none); go_at_call_of 23 (Value.pointer (some ⟨c, 0, none⟩)); refine (same_row_none c U _ _ (by first | exact F5.out.2.1 | exact F5.out.2.1.drewN _)).mono ?_; rintro e w7 ⟨rfl, hw⟩; subst hw)
      | (go_at_call 23; refine (same_rows b V n c U _ _ (by first | exact F5.out.1 | exact F5.out.1.drewN _) (by first | exact F5.out.2.1 | exact F5.out.2.1.drewN _)).mono ?_; rintro e w8 ⟨rfl, m8, rfl⟩)
      | (go_at_call 24; refine (nil_add _ _ _).mono ?_; rintro e w9 ⟨rfl, hw⟩; subst hw)
      | (go_at_call 9; refine (nil_len _).mono ?_; rintro e w9 ⟨rfl, hw⟩; subst hw)
      | (go_at_call 13; refine (nil_bit i _ HT.out.2.1 HT.out.2.2).mono ?_; rintro e w10 ⟨rfl, m10, rfl⟩)
      | (go_at_call 15; refine (nil_cut i _ _ HT.out.2.1 HT.out.2.2).mono ?_; rintro e w11 ⟨rfl, m11, rfl⟩)
      | (go_at_call 17; refine (nil_ones _).mono ?_; rintro e w9 ⟨rfl, hw⟩; subst hw)
      | (go_at_call 19; refine (nil_next i _).mono ?_; rintro e w9 ⟨rfl, hw⟩; subst hw)
      | (go_at_call 11; refine (nil_words _).mono ?_; rintro e w9 ⟨rfl, hw⟩; subst hw)
      | (go_at_call 7; refine (live _ (More.tab HT.out.1 (More.trans F5.out.2.2 (More.drewN _ _)))).mono ?_; rintro e wz ⟨rfl, hm⟩; have H9 := Hid.mk hm; clear hm))
    go_ret
    exact ⟨rfl, More.trans (More.trans F5.out.2.2 (More.drewN _ _)) H9.out⟩
  · rename_i hnm
    have F5 := Hid.mk (And.intro (More.row H1.out.1 H2.out.2.2.1).rd (And.intro H2.out.1.rd (More.trans H1.out.2.2.1 H2.out.2.2.1)))
    have hdec : decide (n = m ∧ V = U) = false := by
      have : ¬ n = m := by omega
      simp [this]
    go_wp2_with (first
      | (go_at_call_of 23 (Value.pointer none); go_at_call_of 23 (Value.pointer (some ⟨b, 0, none⟩)); refine (same_none_row b V n _ (by first | exact F5.out.1 | exact F5.out.1.drewN _)).mono ?_; rintro e w6 ⟨rfl, hw⟩; subst hw)
      | (go_at_call_of 23 (Value.pointer none); go_at_call_of 23 (Value.pointer (some ⟨c, 0, none⟩)); refine (same_row_none c U _ _ (by first | exact F5.out.2.1 | exact F5.out.2.1.drewN _)).mono ?_; rintro e w7 ⟨rfl, hw⟩; subst hw)
      | (go_at_call 23; refine (same_rows b V n c U _ _ (by first | exact F5.out.1 | exact F5.out.1.drewN _) (by first | exact F5.out.2.1 | exact F5.out.2.1.drewN _)).mono ?_; rintro e w8 ⟨rfl, m8, rfl⟩)
      | (go_at_call 24; refine (nil_add _ _ _).mono ?_; rintro e w9 ⟨rfl, hw⟩; subst hw)
      | (go_at_call 9; refine (nil_len _).mono ?_; rintro e w9 ⟨rfl, hw⟩; subst hw)
      | (go_at_call 13; refine (nil_bit i _ HT.out.2.1 HT.out.2.2).mono ?_; rintro e w10 ⟨rfl, m10, rfl⟩)
      | (go_at_call 15; refine (nil_cut i _ _ HT.out.2.1 HT.out.2.2).mono ?_; rintro e w11 ⟨rfl, m11, rfl⟩)
      | (go_at_call 17; refine (nil_ones _).mono ?_; rintro e w9 ⟨rfl, hw⟩; subst hw)
      | (go_at_call 19; refine (nil_next i _).mono ?_; rintro e w9 ⟨rfl, hw⟩; subst hw)
      | (go_at_call 11; refine (nil_words _).mono ?_; rintro e w9 ⟨rfl, hw⟩; subst hw)
      | (go_at_call 7; refine (live _ (More.tab HT.out.1 (More.trans F5.out.2.2 (More.drewN _ _)))).mono ?_; rintro e wz ⟨rfl, hm⟩; have H9 := Hid.mk hm; clear hm))
    go_ret
    exact ⟨rfl, More.trans (More.trans F5.out.2.2 (More.drewN _ _)) H9.out⟩

end Go.Proofs.YtbbnjledicddhaaDoor
