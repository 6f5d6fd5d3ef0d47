/-
  DirAll walked.
-/
import Derived.Test.YtmhbejgmcphebaaSelLawA
import Derived.Test.YtmhbejgmcphebaaLat
namespace Go.Proofs.Ytmhbejgmcphebaa
open Go.RowKit

set_option maxHeartbeats 1600000 in
set_option maxRecDepth 1000000 in
theorem dirAll (v : Value) (L T x N : Nat) (f : Nat → Nat) (w : World) (h : Rd w v L f) (hf : ∀ j, j < L → f j < 18446744073709551616) (hL : L ≤ 9223372036854775807) (hT : T ≤ 255) (hx : x < 18446744073709551616) (hN : N ≤ 255) :
    Calls Try.prog 4 #[caseV v T x N] w fun e w' => e = .returned (.bool true) ∧ More w w' := by
  obtain ⟨ao, cap, rfl⟩ := h.shape
  obtain ⟨w0, hw0⟩ : ∃ w0, (w.alloc (.cells #[.slice ao L cap, .int .u8 T, .int .u64 x, .int .u8 N] 25)) = w0 := ⟨_, rfl⟩
  have hm0 : More w w0 := by rw [← hw0]; exact (Below.refl _ w).alloc (Nat.le_refl _) _
  have hc0 : CaseAt w0 w.heap.size (.slice ao L cap) T x N := by rw [← hw0]; exact CaseAt.new w _ _ _ _
  have hs := small ao L cap T x N w0 hL hT hN
  have H0 := Hid.mk (And.intro h (And.intro hf (And.intro hm0 hc0)))
  obtain ⟨c0, c1, c2, c3⟩ := hc0
  clear h hf hm0
  by_cases hS : L ≤ 6 ∧ T ≤ 40 ∧ N ≤ 64
  · rw [decide_eq_true hS] at hs
    obtain ⟨s1, s2, s3⟩ := hS
    by_cases hT8 : T ≤ 8
    · obtain ⟨V, hV⟩ : ∃ V, rowV f L T x N = V := ⟨_, rfl⟩
      obtain ⟨n, hn⟩ : ∃ n, rowN L T N = n := ⟨_, rfl⟩
      have hnb : n ≤ 15424 := by rw [← hn]; exact rowN_le s1 s2 s3
      have hrow : ∀ w1, More w0 w1 → Calls Try.prog 8 #[caseV (.slice ao L cap) T x N] w1 fun e w' => ∃ b, e = .returned (.pointer (some ⟨b, 0, none⟩)) ∧ RowAt w' w1.heap.size b V n ∧ More w1 w' := fun w1 hm => by
        rw [← hV, ← hn]; exact law_row _ L T x N f w1 (H0.out.1.more (More.trans H0.out.2.2.1 hm)) H0.out.2.1 s1 s2 hx s3
      have hbits : ∀ w1, More w0 w1 → Calls Try.prog 9 #[caseV (.slice ao L cap) T x N] w1 fun e w' => ∃ v', e = .returned v' ∧ w'.ownsRow w1.heap.size 4 1 v' n (bools V n) ∧ More w1 w' := fun w1 hm => by
        rw [← hV, ← hn]; exact law_bits _ L T x N f w1 (H0.out.1.more (More.trans H0.out.2.2.1 hm)) H0.out.2.1 s1 s2 hx s3
      obtain ⟨U, hU⟩ : ∃ U, flipV V (nw n) = U := ⟨_, rfl⟩
      obtain ⟨R1, hR1⟩ : ∃ R, rk V n = R := ⟨_, rfl⟩
      obtain ⟨R0, hR0⟩ : ∃ R, rk U n = R := ⟨_, rfl⟩
      have hb1 : R1 ≤ 15424 := by rw [← hR1]; exact Nat.le_trans (rk_le _ _) hnb
      have hb0 : R0 ≤ 15424 := by rw [← hR0]; exact Nat.le_trans (rk_le _ _) hnb
      have hp1 : ∀ (v' : Value) w1, BRd w1 v' n V → V < 2 ^ n → Calls Try.prog 10 #[v', .bool true] w1 fun e w' => ∃ v', e = .returned v' ∧ w'.ownsRow w1.heap.size 3 1 v' R1 (ints (pl V n) R1) ∧ More w1 w' := fun v' w1 hb hfit => by
        have := ref_places v' n V V true w1 hb (oneV_bit hfit true) (by omega); rwa [hR1] at this
      have hp0 : ∀ (v' : Value) w1, BRd w1 v' n V → V < 2 ^ n → Calls Try.prog 10 #[v', .bool false] w1 fun e w' => ∃ v', e = .returned v' ∧ w'.ownsRow w1.heap.size 3 1 v' R0 (ints (pl U n) R0) ∧ More w1 w' := fun v' w1 hb hfit => by
        have := ref_places v' n V U false w1 hb (by rw [← hU]; exact oneV_bit hfit false) (by omega); rwa [hR0] at this
      have ho : ∀ (d base k : Nat) w1, SDirAt w1 base d V n → k < R1 → Calls Try.prog 12 #[.pointer (some ⟨d, 0, none⟩), .int .i64 k] w1 fun e w' => e = .returned (.int .i64 (pl V n k : Nat)) ∧ More w1 w' := fun d base k w1 hd hk => by
        have := sdir_one d V n k base w1 hd; rwa [← pl_at V n k (by omega)] at this
      have hoe : ∀ (d base : Nat) w1, SDirAt w1 base d V n → Calls Try.prog 12 #[.pointer (some ⟨d, 0, none⟩), .int .i64 R1] w1 fun e w' => e = .returned (.int .i64 (-1)) ∧ More w1 w' := fun d base w1 hd => by
        have := sdir_one d V n R1 base w1 hd; rwa [sel_outN V R1 n (by omega)] at this
      have hz : ∀ (d base k : Nat) w1, SDirAt w1 base d V n → k < R0 → Calls Try.prog 14 #[.pointer (some ⟨d, 0, none⟩), .int .i64 k] w1 fun e w' => e = .returned (.int .i64 (pl U n k : Nat)) ∧ More w1 w' := fun d base k w1 hd hk => by
        have := sdir_zero d V n k base w1 hd; rwa [hU, ← pl_at U n k (by omega)] at this
      have hze : ∀ (d base : Nat) w1, SDirAt w1 base d V n → Calls Try.prog 14 #[.pointer (some ⟨d, 0, none⟩), .int .i64 R0] w1 fun e w' => e = .returned (.int .i64 (-1)) ∧ More w1 w' := fun d base w1 hd => by
        have := sdir_zero d V n R0 base w1 hd; rwa [hU, sel_outN U R0 n (by omega)] at this
      clear hV hn hU hR1 hR0
      go_enter Try.func4, Try.ntmps4
      go_wp2_with (first
        | (go_at_call 5; refine hs.mono ?_; rintro e w1 ⟨rfl, hm⟩; obtain ⟨d0, d1, d2, d3⟩ := H0.out.2.2.2.more hm; have H1 := Hid.mk hm; clear hm hs)
        | (go_at_call 8; refine (hrow _ H1.out).mono ?_; rintro e w2 ⟨b, rfl, hr, hm⟩; have H2 := Hid.mk (And.intro hr (More.trans H1.out hm)); clear hr hm hrow d0 d1 d2 d3)
        | (go_at_call 7; refine (sdir_new _ V n w2 (fun w' hm => RowOr.row (hm.row H2.out.1))).mono ?_; rintro e w3 ⟨d, rfl, hd, hm⟩; obtain ⟨d0, d1, d2, d3⟩ := H0.out.2.2.2.more (More.trans H2.out.2 hm); have H3 := Hid.mk (And.intro hd (More.trans H2.out.2 hm)); clear hd hm)
        | (go_at_call 9; refine (hbits _ H3.out.2).mono ?_; rintro e w4 ⟨vb, rfl, hown, hm⟩; obtain ⟨ab, cb, rfl⟩ := shape_of hown; have H4 := Hid.mk (And.intro (brd_of_own hown) (And.intro (H3.out.1.more hm) (More.trans H3.out.2 hm))); clear hown hm hbits d0 d1 d2 d3)
        | (go_at_call_of 10 (Value.bool true); refine (hp1 _ w4 H4.out.1 H4.out.2.1.fit).mono ?_; rintro e w5 ⟨v1, rfl, hown, hm⟩; obtain ⟨a1, c1, rfl⟩ := shape_of hown; have H5 := Hid.mk (And.intro hown hm); clear hown hm hp1)
        | (go_at_call_of 10 (Value.bool false); refine (hp0 _ w5 (H4.out.1.more H5.out.2) H4.out.2.1.fit).mono ?_; rintro e w6 ⟨v2, rfl, hown, hm⟩; obtain ⟨a2, c2, rfl⟩ := shape_of hown; have H6 := Hid.mk (And.intro (ird_of_own hown) (And.intro ((ird_of_own H5.out.1).more hm) (And.intro (H4.out.2.1.more (More.trans H5.out.2 hm)) (More.trans H4.out.2.2 (More.trans H5.out.2 hm))))); clear hown hm hp0))
      go_loopw [7] (fun c wr => ∃ k : Nat, k ≤ R1 ∧ c = .int .i64 k ∧ Hid (More w6 wr)) (fun c _ => R1 - (intOf c).toNat)
      case atStart => exact ⟨0, Nat.zero_le _, rfl, Hid.mk (Below.refl _ _)⟩
      case round =>
        obtain ⟨k, hk, rfl, HR⟩ := hrel
        by_cases hkR : k < R1
        · obtain ⟨g, rfl, hg⟩ := H6.out.2.1.at (by omega)
          have hgk := hg k hkR
          have l1 : ∀ u : Lat wr, u.val.cell? ⟨g, k, none⟩ = some (.int .i64 (pl V n k : Nat)) := fun u => ((More.trans HR.out u.more).cell (p := ⟨g, k, none⟩) (World.block_lt_of_cell? w6 _ hgk)).trans hgk
          have k12 : ∀ u : Lat wr, Calls Try.prog 12 #[.pointer (some ⟨d, 0, none⟩), .int .i64 k] u.val fun e w' => e = .returned (.int .i64 (pl V n k : Nat)) ∧ ∃ u' : Lat wr, w' = u'.val := fun u =>
            (ho d _ k _ (H6.out.2.2.1.more (More.trans HR.out u.more)) hkR).mono fun e w' ⟨he, hm⟩ => ⟨he, u.grown hm⟩
          have hne : Nonempty (Lat wr) := Lat.any wr
          clear hg hgk ho hoe hz hze
          generalize pl V n k = p at *
          go_wp2
          refine wp_region_lat (by kernel_rfl) (by kernel_rfl) ?_
          repeat (quiet_step ((go_at_call 12; exact k12 _)))
          refine wpQuiet_nil ?_
          rintro _ ⟨u, rfl⟩
          have HU := Hid.mk (More.trans HR.out u.more)
          clear l1 k12
          go_wp2
          refine ⟨⟨k + 1, by omega, by go_num, Hid.mk HU.out⟩, by simp [intOf]; omega⟩
        · obtain rfl : k = R1 := by omega
          go_wp2
          have HR1 := HR
          generalize wr = w7 at *
          go_loopw [8] (fun c wr => ∃ k : Nat, k ≤ R0 ∧ c = .int .i64 k ∧ Hid (More w6 wr)) (fun c _ => R0 - (intOf c).toNat)
          case atStart => exact ⟨0, Nat.zero_le _, rfl, Hid.mk HR1.out⟩
          case round =>
            obtain ⟨j, hj, rfl, HQ⟩ := hrel
            by_cases hjR : j < R0
            · obtain ⟨g, rfl, hg⟩ := H6.out.1.at (by omega)
              have hgk := hg j hjR
              have l1 : ∀ u : Lat wr, u.val.cell? ⟨g, j, none⟩ = some (.int .i64 (pl U n j : Nat)) := fun u => ((More.trans HQ.out u.more).cell (p := ⟨g, j, none⟩) (World.block_lt_of_cell? w6 _ hgk)).trans hgk
              have k12 : ∀ u : Lat wr, Calls Try.prog 14 #[.pointer (some ⟨d, 0, none⟩), .int .i64 j] u.val fun e w' => e = .returned (.int .i64 (pl U n j : Nat)) ∧ ∃ u' : Lat wr, w' = u'.val := fun u =>
                (hz d _ j _ (H6.out.2.2.1.more (More.trans HQ.out u.more)) hjR).mono fun e w' ⟨he, hm⟩ => ⟨he, u.grown hm⟩
              have hne : Nonempty (Lat wr) := Lat.any wr
              clear hg hgk ho hoe hz hze
              generalize pl U n j = p at *
              go_wp2
              refine wp_region_lat (by kernel_rfl) (by kernel_rfl) ?_
              repeat (quiet_step ((go_at_call 14; exact k12 _)))
              refine wpQuiet_nil ?_
              rintro _ ⟨u, rfl⟩
              have HU := Hid.mk (More.trans HQ.out u.more)
              clear l1 k12
              go_wp2
              refine ⟨⟨j + 1, by omega, by go_num, Hid.mk HU.out⟩, by simp [intOf]; omega⟩
            · obtain rfl : j = R0 := by omega
              clear ho hz
              go_wp2_with (first
                | (go_at_call 12; refine (hoe d _ wr (H6.out.2.2.1.more HQ.out)).mono ?_; rintro e w8 ⟨rfl, hm⟩; have H8 := Hid.mk (More.trans HQ.out hm); clear hm)
                | (go_at_call 14; refine (hze d _ w8 (H6.out.2.2.1.more H8.out)).mono ?_; rintro e w9 ⟨rfl, hm⟩; have H9 := Hid.mk (More.trans H8.out hm); clear hm)
                | (go_at_call 6; refine (live_true _).mono ?_; rintro e w10 ⟨rfl, hm⟩; have H10 := Hid.mk (More.trans H6.out.2.2.2 (More.trans H9.out hm)); clear hm))
              go_ret
              exact ⟨rfl, More.trans H0.out.2.2.1 H10.out⟩
    · go_enter Try.func4, Try.ntmps4
      go_wp2_with (first
        | (go_at_call 5; refine hs.mono ?_; rintro e w1 ⟨rfl, hm⟩; obtain ⟨d0, d1, d2, d3⟩ := H0.out.2.2.2.more hm; have H1 := Hid.mk hm; clear hm hs)
        | (go_at_call 6; refine (live_true _).mono ?_; rintro e w5 ⟨rfl, hm⟩; have H5 := Hid.mk (More.trans H1.out hm); clear hm))
      go_ret
      exact ⟨rfl, More.trans H0.out.2.2.1 H5.out⟩
  · rw [decide_eq_false hS] at hs
    clear hS
    go_enter Try.func4, Try.ntmps4
    go_wp2_with (first
      | (go_at_call 5; refine hs.mono ?_; rintro e w1 ⟨rfl, hm⟩; have H1 := Hid.mk hm; clear hm hs)
      | (go_at_call 6; refine (live_true _).mono ?_; rintro e w5 ⟨rfl, hm⟩; have H5 := Hid.mk (More.trans H1.out hm); clear hm))
    go_ret
    exact ⟨rfl, More.trans H0.out.2.2.1 H5.out⟩

end Go.Proofs.Ytmhbejgmcphebaa
