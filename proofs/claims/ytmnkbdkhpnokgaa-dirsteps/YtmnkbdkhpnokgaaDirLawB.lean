/-
  DirSteps walked.
-/
import Derived.Test.YtmnkbdkhpnokgaaDirLawA
namespace Go.Proofs.Ytmnkbdkhpnokgaa
open Go.RowKit

theorem BRd.at {w : World} {ao : Option Addr} {n cap V : Nat} (h : BRd w (.slice ao n cap) n V) (hn : 0 < n) : ∃ g, ao = some ⟨g, 0, none⟩ ∧ ∀ k, k < n → w.cell? ⟨g, k, none⟩ = some (.bool (V.testBit k)) := by
  rcases h with ⟨rfl, _⟩ | ⟨g, cap', h, hc⟩
  · omega
  · simp at h
    exact ⟨g, h.1, hc⟩

set_option maxHeartbeats 1600000 in
set_option maxRecDepth 1000000 in
theorem dirSteps (v : Value) (L T x N : Nat) (f : Nat → Nat) (w : World) (h : Rd w v L f) (hf : ∀ j, j < L → f j < 18446744073709551616) (hL : L ≤ 9223372036854775807) (hT : T ≤ 255) (hx : x < 18446744073709551616) (hN : N ≤ 255) :
    Calls Try.prog 5 #[caseV v T x N] w fun e w' => e = .returned (.bool true) ∧ More w w' := by
  obtain ⟨ao, cap, rfl⟩ := h.shape
  obtain ⟨w0, hw0⟩ : ∃ w0, (w.alloc (.cells #[.slice ao L cap, .int .u8 T, .int .u64 x, .int .u8 N] 25)) = w0 := ⟨_, rfl⟩
  have hm0 : More w w0 := by rw [← hw0]; exact (Below.refl _ w).alloc (Nat.le_refl _) _
  have hc0 : CaseAt w0 w.heap.size (.slice ao L cap) T x N := by rw [← hw0]; exact CaseAt.new w _ _ _ _
  have hs := small ao L cap T x N w0 hL hT hN
  have H0 := Hid.mk (And.intro h (And.intro hf (And.intro hm0 hc0)))
  obtain ⟨c0, c1, c2, c3⟩ := hc0
  clear h hf hm0
  by_cases hS : L ≤ 6 ∧ T ≤ 40 ∧ N ≤ 64
  · rw [decide_eq_true hS] at hs
    obtain ⟨s1, s2, s3⟩ := hS
    by_cases hT8 : T ≤ 8
    · obtain ⟨V, hV⟩ : ∃ V, rowV f L T x N = V := ⟨_, rfl⟩
      obtain ⟨n, hn⟩ : ∃ n, rowN L T N = n := ⟨_, rfl⟩
      have hnb : n ≤ 15424 := by rw [← hn]; exact rowN_le s1 s2 s3
      have hrow : ∀ w1, More w0 w1 → Calls Try.prog 9 #[caseV (.slice ao L cap) T x N] w1 fun e w' => ∃ b, e = .returned (.pointer (some ⟨b, 0, none⟩)) ∧ RowAt w' w1.heap.size b V n ∧ More w1 w' := fun w1 hm => by
        rw [← hV, ← hn]; exact law_row _ L T x N f w1 (H0.out.1.more (More.trans H0.out.2.2.1 hm)) H0.out.2.1 s1 s2 hx s3
      have hbits : ∀ w1, More w0 w1 → Calls Try.prog 10 #[caseV (.slice ao L cap) T x N] w1 fun e w' => ∃ v', e = .returned v' ∧ w'.ownsRow w1.heap.size 4 1 v' n (bools V n) ∧ More w1 w' := fun w1 hm => by
        rw [← hV, ← hn]; exact law_bits _ L T x N f w1 (H0.out.1.more (More.trans H0.out.2.2.1 hm)) H0.out.2.1 s1 s2 hx s3
      obtain ⟨G, hG⟩ : ∃ G : Int → Int, ∀ i, G i = (rk V (near i n) : Nat) := ⟨_, fun _ => rfl⟩
      obtain ⟨Z, hZ⟩ : ∃ Z : Int → Int, ∀ i, Z i = (near i n : Int) - (rk V (near i n) : Nat) := ⟨_, fun _ => rfl⟩
      have hrank : ∀ (d : Nat) w1, DirRd w1 d V n → ∀ i, Calls Try.prog 12 #[.pointer (some ⟨d, 0, none⟩), .int .i64 i] w1 fun e w' => e = .returned (.int .i64 (G i)) ∧ w' = w1 := fun d w1 hd i => by
        rw [hG]; exact dir_rank d V n i w1 hd
      have hzero : ∀ (d : Nat) w1, DirRd w1 d V n → ∀ i, Calls Try.prog 14 #[.pointer (some ⟨d, 0, none⟩), .int .i64 i] w1 fun e w' => e = .returned (.int .i64 (Z i)) ∧ w' = w1 := fun d w1 hd i => by
        rw [hZ, ← Int.natCast_sub (rk_le _ _)]; exact dir_zeros d V n i w1 hd
      have HG := Hid.mk (And.intro hG hZ)
      clear hV hn hG hZ
      go_enter Try.func5, Try.ntmps5
      go_wp2_with (first
        | (go_at_call 6; refine hs.mono ?_; rintro e w1 ⟨rfl, hm⟩; obtain ⟨d0, d1, d2, d3⟩ := H0.out.2.2.2.more hm; have H1 := Hid.mk hm; clear hm hs)
        | (go_at_call 9; refine (hrow _ H1.out).mono ?_; rintro e w2 ⟨b, rfl, hr, hm⟩; have H2 := Hid.mk (And.intro hr (More.trans H1.out hm)); clear hr hm hrow d0 d1 d2 d3)
        | (go_at_call 8; refine (dir_new _ V n w2 (RowOr.row H2.out.1)).mono ?_; rintro e w3 ⟨d, rfl, hd, hm⟩; obtain ⟨d0, d1, d2, d3⟩ := H0.out.2.2.2.more (More.trans H2.out.2 hm); have H3 := Hid.mk (And.intro hd.rd (More.trans H2.out.2 hm)); clear hd hm H2)
        | (go_at_call 10; refine (hbits _ H3.out.2).mono ?_; rintro e w4 ⟨vb, rfl, hown, hm⟩; obtain ⟨ab, cb, rfl⟩ := shape_of hown; have H4 := Hid.mk (And.intro (brd_of_own hown) (And.intro (H3.out.1.more hm) (More.trans H3.out.2 hm))); clear hown hm hbits d0 d1 d2 d3))
      go_loop [6] (fun c => ∃ k : Nat, k ≤ n ∧ c = .int .i64 k) (fun c => n - (intOf c).toNat)
      case atStart => exact ⟨0, Nat.zero_le _, rfl⟩
      case round =>
        obtain ⟨k, hk, rfl⟩ := hrel
        by_cases hkn : k < n
        · obtain ⟨g, rfl, hc⟩ := H4.out.1.at (by omega)
          have hck := hc k hkn
          clear hc
          have g1 := HG.out.1 ((k : Int) + 1)
          have g0 := HG.out.1 (k : Int)
          have z0 := HG.out.2 (k : Int)
          have hst := rk_succ V k
          have hle := rk_le V k
          rw [show near ((k : Int) + 1) n = k + 1 by unfold near; omega] at g1
          rw [show near (k : Int) n = k by unfold near; omega] at g0 z0
          have hR0 := hrank d w4 H4.out.2.1
          have hZ0 := hzero d w4 H4.out.2.1
          clear hrank hzero
          by_cases hb : V.testBit k = true
          · rw [hst, if_pos hb] at g1
            rw [hb] at hck
            clear hst hb
            generalize rk V k = R at *
            rw [show ((R + 1 : Nat) : Int) = (R : Int) + 1 by omega] at g1
            go_wp2_with (first
              | (go_at_call 12; refine (hR0 _).mono ?_; rintro e w' ⟨rfl, hw'⟩; subst w')
              | (go_at_call 14; refine (hZ0 _).mono ?_; rintro e w' ⟨rfl, hw'⟩; subst w'))
            refine ⟨⟨k + 1, by omega, by go_num⟩, by simp [intOf]; omega⟩
          · rw [hst, if_neg hb, Nat.add_zero] at g1
            rw [show V.testBit k = false by simpa using hb] at hck
            clear hst hb
            generalize rk V k = R at *
            go_wp2_with (first
              | (go_at_call 12; refine (hR0 _).mono ?_; rintro e w' ⟨rfl, hw'⟩; subst w')
              | (go_at_call 14; refine (hZ0 _).mono ?_; rintro e w' ⟨rfl, hw'⟩; subst w'))
            refine ⟨⟨k + 1, by omega, by go_num⟩, by simp [intOf]; omega⟩
        · obtain rfl : k = n := by omega
          go_wp2_with (first
            | (go_at_call 11; refine (dir_len d k w4 H4.out.2.1.c2).mono ?_; rintro e w' ⟨rfl, hw'⟩; subst w')
            | (go_at_call 7; refine (live_true _).mono ?_; rintro e w5 ⟨rfl, hm⟩; have H5 := Hid.mk (More.trans H4.out.2.2 hm); clear hm))
          go_ret
          exact ⟨rfl, More.trans H0.out.2.2.1 H5.out⟩
    · go_enter Try.func5, Try.ntmps5
      go_wp2_with (first
        | (go_at_call 6; refine hs.mono ?_; rintro e w1 ⟨rfl, hm⟩; obtain ⟨d0, d1, d2, d3⟩ := H0.out.2.2.2.more hm; have H1 := Hid.mk hm; clear hm hs)
        | (go_at_call 7; refine (live_true _).mono ?_; rintro e w5 ⟨rfl, hm⟩; have H5 := Hid.mk (More.trans H1.out hm); clear hm))
      go_ret
      exact ⟨rfl, More.trans H0.out.2.2.1 H5.out⟩
  · rw [decide_eq_false hS] at hs
    clear hS
    go_enter Try.func5, Try.ntmps5
    go_wp2_with (first
      | (go_at_call 6; refine hs.mono ?_; rintro e w1 ⟨rfl, hm⟩; have H1 := Hid.mk hm; clear hm hs)
      | (go_at_call 7; refine (live_true _).mono ?_; rintro e w5 ⟨rfl, hm⟩; have H5 := Hid.mk (More.trans H1.out hm); clear hm))
    go_ret
    exact ⟨rfl, More.trans H0.out.2.2.1 H5.out⟩

end Go.Proofs.Ytmnkbdkhpnokgaa
