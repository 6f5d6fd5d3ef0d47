/-
  DirOnes walked.
-/
import Derived.Test.YtmhbejgmcphebaaSelLive
namespace Go.Proofs.Ytmhbejgmcphebaa
open Go.RowKit

theorem one_true (V n : Nat) : oneV V n true = V := rfl
theorem one_false (V n : Nat) : oneV V n false = flipV V (nw n) := rfl

set_option maxHeartbeats 1600000 in
set_option maxRecDepth 1000000 in
theorem dirOnes (v : Value) (L T x N : Nat) (f : Nat → Nat) (k : Int) (w : World) (h : Rd w v L f) (hf : ∀ j, j < L → f j < 18446744073709551616) (hL : L ≤ 9223372036854775807) (hT : T ≤ 255) (hx : x < 18446744073709551616) (hN : N ≤ 255) :
    Calls Try.prog 3 #[caseV v T x N, .int .i64 k] w fun e w' => e = .returned (.bool true) ∧ More w w' := by
  obtain ⟨ao, cap, rfl⟩ := h.shape
  obtain ⟨w0, hw0⟩ : ∃ w0, (w.alloc (.cells #[.slice ao L cap, .int .u8 T, .int .u64 x, .int .u8 N] 25)) = w0 := ⟨_, rfl⟩
  have hm0 : More w w0 := by rw [← hw0]; exact (Below.refl _ w).alloc (Nat.le_refl _) _
  have hc0 : CaseAt w0 w.heap.size (.slice ao L cap) T x N := by rw [← hw0]; exact CaseAt.new w _ _ _ _
  have hs := small ao L cap T x N w0 hL hT hN
  have H0 := Hid.mk (And.intro h (And.intro hf (And.intro hm0 hc0)))
  obtain ⟨c0, c1, c2, c3⟩ := hc0
  clear h hf hm0
  by_cases hS : L ≤ 6 ∧ T ≤ 40 ∧ N ≤ 64
  · rw [decide_eq_true hS] at hs
    obtain ⟨s1, s2, s3⟩ := hS
    obtain ⟨V, hV⟩ : ∃ V, rowV f L T x N = V := ⟨_, rfl⟩
    obtain ⟨n, hn⟩ : ∃ n, rowN L T N = n := ⟨_, rfl⟩
    have hnb : n ≤ 15424 := by rw [← hn]; exact rowN_le s1 s2 s3
    have hrow : ∀ w1, More w0 w1 → Calls Try.prog 8 #[caseV (.slice ao L cap) T x N] w1 fun e w' => ∃ b, e = .returned (.pointer (some ⟨b, 0, none⟩)) ∧ RowAt w' w1.heap.size b V n ∧ More w1 w' := fun w1 hm => by
      rw [← hV, ← hn]; exact law_row _ L T x N f w1 (H0.out.1.more (More.trans H0.out.2.2.1 hm)) H0.out.2.1 s1 s2 hx s3
    have hbits : ∀ w1, More w0 w1 → Calls Try.prog 9 #[caseV (.slice ao L cap) T x N] w1 fun e w' => ∃ v', e = .returned v' ∧ w'.ownsRow w1.heap.size 4 1 v' n (bools V n) ∧ More w1 w' := fun w1 hm => by
      rw [← hV, ← hn]; exact law_bits _ L T x N f w1 (H0.out.1.more (More.trans H0.out.2.2.1 hm)) H0.out.2.1 s1 s2 hx s3
    obtain ⟨S1, hS1⟩ : ∃ S, sel V k n = S := ⟨_, rfl⟩
    obtain ⟨S0, hS0⟩ : ∃ S, sel (flipV V (nw n)) k n = S := ⟨_, rfl⟩
    obtain ⟨R1, hR1⟩ : ∃ R, rk V n = R := ⟨_, rfl⟩
    obtain ⟨R0, hR0⟩ : ∃ R, rk (flipV V (nw n)) n = R := ⟨_, rfl⟩
    have hp1 : ∀ (v' : Value) w1, BRd w1 v' n V → V < 2 ^ n → Calls Try.prog 10 #[v', .bool true] w1 fun e w' => ∃ v', e = .returned v' ∧ w'.ownsRow w1.heap.size 3 1 v' R1 (ints (pl V n) R1) ∧ More w1 w' := fun v' w1 hb hfit => by
      have := ref_places v' n V V true w1 hb (oneV_bit hfit true) (by omega); rwa [hR1] at this
    have hp0 : ∀ (v' : Value) w1, BRd w1 v' n V → V < 2 ^ n → Calls Try.prog 10 #[v', .bool false] w1 fun e w' => ∃ v', e = .returned v' ∧ w'.ownsRow w1.heap.size 3 1 v' R0 (ints (pl (flipV V (nw n)) n) R0) ∧ More w1 w' := fun v' w1 hb hfit => by
      have := ref_places v' n V (flipV V (nw n)) false w1 hb (oneV_bit hfit false) (by omega); rwa [hR0] at this
    have ha1 : ∀ (v' : Value) w1, IRd w1 v' R1 (pl V n) → Calls Try.prog 13 #[v', .int .i64 k] w1 fun e w' => e = .returned (.int .i64 S1) ∧ w' = w1 := fun v' w1 hi => by
      have := ref_at v' R1 (pl V n) k w1 hi; rwa [← hR1, at_sel, hS1] at this
    have ha0 : ∀ (v' : Value) w1, IRd w1 v' R0 (pl (flipV V (nw n)) n) → Calls Try.prog 13 #[v', .int .i64 k] w1 fun e w' => e = .returned (.int .i64 S0) ∧ w' = w1 := fun v' w1 hi => by
      have := ref_at v' R0 (pl (flipV V (nw n)) n) k w1 hi; rwa [← hR0, at_sel, hS0] at this
    have ho : ∀ (d base : Nat) w1, SDirAt w1 base d V n → Calls Try.prog 12 #[.pointer (some ⟨d, 0, none⟩), .int .i64 k] w1 fun e w' => e = .returned (.int .i64 S1) ∧ More w1 w' := fun d base w1 hd => by
      have := sdir_one d V n k base w1 hd; rwa [hS1] at this
    have hz : ∀ (d base : Nat) w1, SDirAt w1 base d V n → Calls Try.prog 14 #[.pointer (some ⟨d, 0, none⟩), .int .i64 k] w1 fun e w' => e = .returned (.int .i64 S0) ∧ More w1 w' := fun d base w1 hd => by
      have := sdir_zero d V n k base w1 hd; rwa [hS0] at this
    have hno : ∀ (d base : Nat) w1, SDirAt w1 base d V n → Calls Try.prog 11 #[.pointer (some ⟨d, 0, none⟩)] w1 fun e w' => e = .returned (.int .i64 R1) ∧ More w1 w' := fun d base w1 hd => by
      have := sdir_ones d V n w1 hd.rd; rw [hR1] at this
      exact this.mono fun e w' ⟨he, m, hm⟩ => ⟨he, by rw [hm]; exact More.drewN _ m⟩
    clear hV hn hS1 hS0 hR1 hR0
    go_enter Try.func3, Try.ntmps3
    go_wp2_with (first
      | (go_at_call 5; refine hs.mono ?_; rintro e w1 ⟨rfl, hm⟩; obtain ⟨d0, d1, d2, d3⟩ := H0.out.2.2.2.more hm; have H1 := Hid.mk hm; clear hm hs)
      | (go_at_call 8; refine (hrow _ H1.out).mono ?_; rintro e w2 ⟨b, rfl, hr, hm⟩; have H2 := Hid.mk (And.intro hr (More.trans H1.out hm)); clear hr hm hrow d0 d1 d2 d3)
      | (go_at_call 7; refine (sdir_new _ V n w2 (fun w' hm => RowOr.row (hm.row H2.out.1))).mono ?_; rintro e w3 ⟨d, rfl, hd, hm⟩; obtain ⟨d0, d1, d2, d3⟩ := H0.out.2.2.2.more (More.trans H2.out.2 hm); have H3 := Hid.mk (And.intro hd (More.trans H2.out.2 hm)); clear hd hm)
      | (go_at_call 9; refine (hbits _ H3.out.2).mono ?_; rintro e w4 ⟨vb, rfl, hown, hm⟩; obtain ⟨ab, cb, rfl⟩ := shape_of hown; have H4 := Hid.mk (And.intro (brd_of_own hown) (And.intro (H3.out.1.more hm) (More.trans H3.out.2 hm))); clear hown hm hbits d0 d1 d2 d3)
      | (go_at_call_of 10 (Value.bool true); refine (hp1 _ w4 H4.out.1 H4.out.2.1.fit).mono ?_; rintro e w5 ⟨v1, rfl, hown, hm⟩; obtain ⟨a1, c1, rfl⟩ := shape_of hown; have H5 := Hid.mk (And.intro hown hm); clear hown hm hp1)
      | (go_at_call_of 10 (Value.bool false); refine (hp0 _ w5 (H4.out.1.more H5.out.2) H4.out.2.1.fit).mono ?_; rintro e w6 ⟨v2, rfl, hown, hm⟩; obtain ⟨a2, c2, rfl⟩ := shape_of hown; have H6 := Hid.mk (And.intro (ird_of_own hown) (And.intro ((ird_of_own H5.out.1).more hm) (And.intro (H4.out.2.1.more (More.trans H5.out.2 hm)) (More.trans H4.out.2.2 (More.trans H5.out.2 hm))))); clear hown hm hp0)
      | (go_at_call 11; refine (hno d _ w6 H6.out.2.2.1).mono ?_; rintro e w7 ⟨rfl, hm⟩; have H7 := Hid.mk hm; clear hm)
      | (go_at_call 12; refine (ho d _ w7 (H6.out.2.2.1.more H7.out)).mono ?_; rintro e w8 ⟨rfl, hm⟩; have H8 := Hid.mk (More.trans H7.out hm); clear hm)
      | (go_at_call_of 13 (Value.slice a1 R1 c1); refine (ha1 _ w8 (H6.out.2.1.more H8.out)).mono ?_; rintro e w' ⟨rfl, hw'⟩; subst w')
      | (go_at_call 14; refine (hz d _ w8 (H6.out.2.2.1.more H8.out)).mono ?_; rintro e w9 ⟨rfl, hm⟩; have H9 := Hid.mk (More.trans H8.out hm); clear hm)
      | (go_at_call_of 13 (Value.slice a2 R0 c2); refine (ha0 _ w9 (H6.out.1.more H9.out)).mono ?_; rintro e w' ⟨rfl, hw'⟩; subst w')
      | (go_at_call 6; refine (live_true _).mono ?_; rintro e w10 ⟨rfl, hm⟩; have H10 := Hid.mk (More.trans H6.out.2.2.2 (More.trans H9.out hm)); clear hm))
    go_ret
    exact ⟨rfl, More.trans H0.out.2.2.1 H10.out⟩
  · rw [decide_eq_false hS] at hs
    clear hS
    go_enter Try.func3, Try.ntmps3
    go_wp2_with (first
      | (go_at_call 5; refine hs.mono ?_; rintro e w1 ⟨rfl, hm⟩; have H1 := Hid.mk hm; clear hm hs)
      | (go_at_call 6; refine (live_true _).mono ?_; rintro e w5 ⟨rfl, hm⟩; have H5 := Hid.mk (More.trans H1.out hm); clear hm))
    go_ret
    exact ⟨rfl, More.trans H0.out.2.2.1 H5.out⟩

end Go.Proofs.Ytmhbejgmcphebaa
