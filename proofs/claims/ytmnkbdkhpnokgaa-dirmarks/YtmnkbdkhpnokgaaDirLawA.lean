/-
  DirRanks walked.
-/
import Derived.Test.YtmnkbdkhpnokgaaDirLive
namespace Go.Proofs.Ytmnkbdkhpnokgaa
open Go.RowKit

/-- A case lies at block b. -/
structure CaseAt (w : World) (b : Nat) (v : Value) (T x N : Nat) : Prop where
  c0 : w.cell? ⟨b, 0, none⟩ = some v
  c1 : w.cell? ⟨b, 1, none⟩ = some (.int .u8 T)
  c2 : w.cell? ⟨b, 2, none⟩ = some (.int .u64 x)
  c3 : w.cell? ⟨b, 3, none⟩ = some (.int .u8 N)
theorem CaseAt.new (w : World) (v : Value) (T x N : Nat) : CaseAt (w.alloc (.cells #[v, .int .u8 T, .int .u64 x, .int .u8 N] 25)) w.heap.size v T x N := ⟨by simp, by simp, by simp, by simp⟩
theorem CaseAt.more {w w' : World} {b : Nat} {v : Value} {T x N : Nat} (h : CaseAt w b v T x N) (k : More w w') : CaseAt w' b v T x N := by
  have hb := World.block_lt_of_cell? w _ h.c1
  exact ⟨(k.cell (p := ⟨b, 0, none⟩) hb).trans h.c0, (k.cell (p := ⟨b, 1, none⟩) hb).trans h.c1, (k.cell (p := ⟨b, 2, none⟩) hb).trans h.c2, (k.cell (p := ⟨b, 3, none⟩) hb).trans h.c3⟩

set_option maxHeartbeats 1600000 in
set_option maxRecDepth 1000000 in
theorem dirRanks (v : Value) (L T x N : Nat) (f : Nat → Nat) (i : Int) (w : World) (h : Rd w v L f) (hf : ∀ j, j < L → f j < 18446744073709551616) (hL : L ≤ 9223372036854775807) (hT : T ≤ 255) (hx : x < 18446744073709551616) (hN : N ≤ 255) :
    Calls Try.prog 3 #[caseV v T x N, .int .i64 i] w fun e w' => e = .returned (.bool true) ∧ More w w' := by
  obtain ⟨ao, cap, rfl⟩ := h.shape
  obtain ⟨w0, hw0⟩ : ∃ w0, (w.alloc (.cells #[.slice ao L cap, .int .u8 T, .int .u64 x, .int .u8 N] 25)) = w0 := ⟨_, rfl⟩
  have hm0 : More w w0 := by rw [← hw0]; exact (Below.refl _ w).alloc (Nat.le_refl _) _
  have hc0 : CaseAt w0 w.heap.size (.slice ao L cap) T x N := by rw [← hw0]; exact CaseAt.new w _ _ _ _
  have hs := small ao L cap T x N w0 hL hT hN
  have H0 := Hid.mk (And.intro h (And.intro hf (And.intro hm0 hc0)))
  obtain ⟨c0, c1, c2, c3⟩ := hc0
  clear h hf hm0
  by_cases hS : L ≤ 6 ∧ T ≤ 40 ∧ N ≤ 64
  · rw [decide_eq_true hS] at hs
    obtain ⟨s1, s2, s3⟩ := hS
    obtain ⟨V, hV⟩ : ∃ V, rowV f L T x N = V := ⟨_, rfl⟩
    obtain ⟨n, hn⟩ : ∃ n, rowN L T N = n := ⟨_, rfl⟩
    have hnb : n ≤ 15424 := by rw [← hn]; exact rowN_le s1 s2 s3
    have hrow : ∀ w1, More w0 w1 → Calls Try.prog 9 #[caseV (.slice ao L cap) T x N] w1 fun e w' => ∃ b, e = .returned (.pointer (some ⟨b, 0, none⟩)) ∧ RowAt w' w1.heap.size b V n ∧ More w1 w' := fun w1 hm => by
      rw [← hV, ← hn]; exact law_row _ L T x N f w1 (H0.out.1.more (More.trans H0.out.2.2.1 hm)) H0.out.2.1 s1 s2 hx s3
    have hbits : ∀ w1, More w0 w1 → Calls Try.prog 10 #[caseV (.slice ao L cap) T x N] w1 fun e w' => ∃ v', e = .returned v' ∧ w'.ownsRow w1.heap.size 4 1 v' n (bools V n) ∧ More w1 w' := fun w1 hm => by
      rw [← hV, ← hn]; exact law_bits _ L T x N f w1 (H0.out.1.more (More.trans H0.out.2.2.1 hm)) H0.out.2.1 s1 s2 hx s3
    have hne := near_eq i n
    have hJn := near_le i n
    obtain ⟨J, hJ⟩ : ∃ J, near i n = J := ⟨_, rfl⟩
    obtain ⟨R, hR⟩ : ∃ R, rk V J = R := ⟨_, rfl⟩
    have hRJ : R ≤ J := by rw [← hR]; exact rk_le _ _
    have hrank : ∀ (d : Nat) w1, DirRd w1 d V n → Calls Try.prog 12 #[.pointer (some ⟨d, 0, none⟩), .int .i64 i] w1 fun e w' => e = .returned (.int .i64 R) ∧ w' = w1 := fun d w1 hd => by
      have := dir_rank d V n i w1 hd; rwa [hJ, hR] at this
    have hzero : ∀ (d : Nat) w1, DirRd w1 d V n → Calls Try.prog 14 #[.pointer (some ⟨d, 0, none⟩), .int .i64 i] w1 fun e w' => e = .returned (.int .i64 ((J : Int) - (R : Int))) ∧ w' = w1 := fun d w1 hd => by
      have := dir_zeros d V n i w1 hd; rwa [hJ, hR, Int.natCast_sub hRJ] at this
    have href : ∀ (v' : Value) w1, BRd w1 v' n V → V < 2 ^ n → Calls Try.prog 13 #[v', .int .i64 i] w1 fun e w' => e = .returned (.int .i64 R) ∧ w' = w1 := fun v' w1 hb hfit => by
      have := ref_rank v' n V i w1 hb hfit (by omega); rwa [hJ, hR] at this
    rw [hJ] at hne hJn
    clear hV hn hJ hR
    go_enter Try.func3, Try.ntmps3
    go_wp2_with (first
      | (go_at_call 6; refine hs.mono ?_; rintro e w1 ⟨rfl, hm⟩; obtain ⟨d0, d1, d2, d3⟩ := H0.out.2.2.2.more hm; have H1 := Hid.mk hm; clear hm hs)
      | (go_at_call 9; refine (hrow _ H1.out).mono ?_; rintro e w2 ⟨b, rfl, hr, hm⟩; have H2 := Hid.mk (And.intro hr (More.trans H1.out hm)); clear hr hm hrow d0 d1 d2 d3)
      | (go_at_call 8; refine (dir_new _ V n w2 (RowOr.row H2.out.1)).mono ?_; rintro e w3 ⟨d, rfl, hd, hm⟩; obtain ⟨d0, d1, d2, d3⟩ := H0.out.2.2.2.more (More.trans H2.out.2 hm); have H3 := Hid.mk (And.intro hd.rd (More.trans H2.out.2 hm)); clear hd hm H2)
      | (go_at_call 10; refine (hbits _ H3.out.2).mono ?_; rintro e w4 ⟨vb, rfl, hown, hm⟩; obtain ⟨ab, cb, rfl⟩ := shape_of hown; have H4 := Hid.mk (And.intro (brd_of_own hown) (And.intro (H3.out.1.more hm) (More.trans H3.out.2 hm))); clear hown hm hbits d0 d1 d2 d3)
      | (go_at_call 11; refine (dir_len d n w4 H4.out.2.1.c2).mono ?_; rintro e w' ⟨rfl, hw'⟩; subst w')
      | (go_at_call 12; refine (hrank d w4 H4.out.2.1).mono ?_; rintro e w' ⟨rfl, hw'⟩; subst w')
      | (go_at_call 13; refine (href _ w4 H4.out.1 H4.out.2.1.fit).mono ?_; rintro e w' ⟨rfl, hw'⟩; subst w')
      | (go_at_call 14; refine (hzero d w4 H4.out.2.1).mono ?_; rintro e w' ⟨rfl, hw'⟩; subst w')
      | (go_at_call 7; refine (live_true _).mono ?_; rintro e w5 ⟨rfl, hm⟩; have H5 := Hid.mk (More.trans H4.out.2.2 hm); clear hm))
    go_ret
    exact ⟨rfl, More.trans H0.out.2.2.1 H5.out⟩
  · rw [decide_eq_false hS] at hs
    clear hS
    go_enter Try.func3, Try.ntmps3
    go_wp2_with (first
      | (go_at_call 6; refine hs.mono ?_; rintro e w1 ⟨rfl, hm⟩; have H1 := Hid.mk hm; clear hm hs)
      | (go_at_call 7; refine (live_true _).mono ?_; rintro e w5 ⟨rfl, hm⟩; have H5 := Hid.mk (More.trans H1.out hm); clear hm))
    go_ret
    exact ⟨rfl, More.trans H0.out.2.2.1 H5.out⟩

end Go.Proofs.Ytmnkbdkhpnokgaa
