/-
  The law's Small, Row and Bits.
-/
import Derived.Test.YtmhbejgmcphebaaDoorDirRows
namespace Go.Proofs.YtmhbejgmcphebaaDoor
open Go.RowKit

/-- A case, as it came in. -/
abbrev caseV (s : Value) (T x N : Nat) : Value := .agg #[s, .int .u8 T, .int .u64 x, .int .u8 N]

theorem small (ao : Option Addr) (L cap T x N : Nat) (w : World) (hL : L ≤ 9223372036854775807) (hT : T ≤ 255) (hN : N ≤ 255) :
    Calls Tryd.prog 4 #[caseV (.slice ao L cap) T x N] w fun e w' => e = .returned (.bool (decide (L ≤ 6 ∧ T ≤ 40 ∧ N ≤ 64))) ∧ More w w' := by
  have hm : More w (w.alloc (.cells #[.slice ao L cap, .int .u8 T, .int .u64 x, .int .u8 N] 25)) := (Below.refl _ w).alloc (Nat.le_refl _) _
  have HM := Hid.mk hm
  clear hm
  by_cases h1 : L ≤ 6
  · by_cases h2 : T ≤ 40
    · by_cases h3 : N ≤ 64
      · rw [decide_eq_true (p := L ≤ 6 ∧ T ≤ 40 ∧ N ≤ 64) ⟨h1, h2, h3⟩]
        go_enter Tryd.func4, Tryd.ntmps4
        go_wp2
        go_ret
        exact ⟨by simp; omega, HM.out⟩
      · rw [decide_eq_false (p := L ≤ 6 ∧ T ≤ 40 ∧ N ≤ 64) (fun h => h3 h.2.2)]
        go_enter Tryd.func4, Tryd.ntmps4
        go_wp2
        go_ret
        exact ⟨by simp; omega, HM.out⟩
    · rw [decide_eq_false (p := L ≤ 6 ∧ T ≤ 40 ∧ N ≤ 64) (fun h => h2 h.2.1)]
      go_enter Tryd.func4, Tryd.ntmps4
      go_wp2
      go_ret
      exact ⟨rfl, HM.out⟩
  · rw [decide_eq_false (p := L ≤ 6 ∧ T ≤ 40 ∧ N ≤ 64) (fun h => h1 h.1)]
    go_enter Tryd.func4, Tryd.ntmps4
    go_wp2
    go_ret
    exact ⟨rfl, HM.out⟩

theorem cut_low (x N : Nat) (hx : x < 18446744073709551616) (hN : N ≤ 64) (w : World) :
    Calls Tryd.prog 16 #[.int .u64 x, .int .i64 0, .int .i64 N] w fun e w' => e = .returned (.int .u64 (x % 2 ^ N : Nat)) ∧ w' = w := by
  have h := ref_Cut x hx 0 N w
  rwa [show min 64 (N : Int).toNat = N by omega, show sh x 0 = x by unfold sh; simp] at h

theorem wrapS (n : Nat) (h : n ≤ 1000000) : IntKind.i64.wrap (n : Int) = n := by
  rw [IntKind.wrap_i64]; omega

set_option maxHeartbeats 800000 in
set_option maxRecDepth 1000000 in
theorem law_bits (v : Value) (L T x N : Nat) (f : Nat → Nat) (w : World) (h : Rd w v L f) (hf : ∀ j, j < L → f j < 18446744073709551616) (hL : L ≤ 6) (hT : T ≤ 40) (hx : x < 18446744073709551616) (hN : N ≤ 64) :
    Calls Tryd.prog 9 #[caseV v T x N] w fun e w' => ∃ v', e = .returned v' ∧ w'.ownsRow w.heap.size 4 1 v' (rowN L T N) (bools (rowV f L T x N) (rowN L T N)) ∧ More w w' := by
  obtain ⟨ao, cap, rfl⟩ := h.shape
  obtain ⟨w0, hw0⟩ : ∃ w0, (w.alloc (.cells #[.slice ao L cap, .int .u8 T, .int .u64 x, .int .u8 N] 25)) = w0 := ⟨_, rfl⟩
  have hm0 : More w w0 := by rw [← hw0]; exact (Below.refl _ w).alloc (Nat.le_refl _) _
  have c0 : w0.cell? ⟨w.heap.size, 0, none⟩ = some (.slice ao L cap) := by rw [← hw0]; simp
  have c1 : w0.cell? ⟨w.heap.size, 1, none⟩ = some (.int .u8 T) := by rw [← hw0]; simp
  have c2 : w0.cell? ⟨w.heap.size, 2, none⟩ = some (.int .u64 x) := by rw [← hw0]; simp
  have c3 : w0.cell? ⟨w.heap.size, 3, none⟩ = some (.int .u8 N) := by rw [← hw0]; simp
  have hy : x % 2 ^ N < 18446744073709551616 := mod_lt64 _ _ hN
  have hcut := fun w => cut_low x N hx hN w
  have hrow : ∀ m, Calls Tryd.prog 21 #[.slice ao L cap, .int .i64 T, .int .u64 (x % 2 ^ N : Nat), .int .i64 N] (w0.drewN m) fun e w' => ∃ v', e = .returned v' ∧ w'.ownsRow w.heap.size 4 1 v' (rowN L T N) (bools (rowV f L T x N) (rowN L T N)) ∧ More w w' := fun m =>
    (ref_row _ L T (x % 2 ^ N) N f (w0.drewN m) (h.more (More.trans hm0 (More.drewN _ m))) hf hL hT hy hN).mono fun e w' ⟨v', he, ho, hm⟩ => ⟨v', he, own_lower ho hm0.size, More.trans hm0 (More.trans (More.drewN _ m) hm)⟩
  have HH := Hid.mk hm0
  generalize x % 2 ^ N = y at *
  go_enter Tryd.func9, Tryd.ntmps9
  go_wp2
  clear h hf hm0 hw0
  refine wp_region_still_tail 14 (by kernel_rfl) (by kernel_rfl) ?_
  simp only [List.take_succ_cons, List.take_zero, List.drop_succ_cons, List.drop_zero]
  change wpStill _ _ (w0.drewN 1) (fun a' => wpList _ _ _ _ a' (w0.drewN 1)) _ _
  have d0 : (w0.drewN 1).cell? ⟨w.heap.size, 0, none⟩ = some (.slice ao L cap) := c0
  have d1 : (w0.drewN 1).cell? ⟨w.heap.size, 1, none⟩ = some (.int .u8 T) := c1
  have d2 : (w0.drewN 1).cell? ⟨w.heap.size, 2, none⟩ = some (.int .u64 x) := c2
  have d3 : (w0.drewN 1).cell? ⟨w.heap.size, 3, none⟩ = some (.int .u8 N) := c3
  have hr1 := hrow 1
  clear c0 c1 c2 c3 hrow
  have hwT := wrapS T (by omega)
  have hwN := wrapS N (by omega)
  generalize w0.drewN 1 = w1 at *
  iterate 10 still_step
  still_call (hcut _)
  iterate 3 still_step
  refine wpStill_nil ?_
  go_wp2_with (go_at_call 21; refine hr1.mono ?_; rintro e w' ⟨v', rfl, hown, hk⟩; have HO := Hid.mk (And.intro hown hk); clear hown hk)
  go_ret
  exact ⟨_, rfl, HO.out.1, HO.out.2⟩

theorem addErr_fit (x d : Nat) (hd : d ≤ 64) (h : x < 2 ^ d) : addErr x d = 0 := by
  have hb : Lib.bitLen x ≤ d := Lib.bitLen_le x d hd h
  unfold addErr
  rw [if_neg (by omega), if_neg (by simp; omega)]

theorem row_fit (base b V n x N : Nat) (w : World) (h : RowAt w base b V n) (hsz : base ≤ w.heap.size) (hN : N ≤ 64) (hx : x < 2 ^ N) (hn : n + 64 ≤ 1099511627776) :
    Calls Tryd.prog 10 #[.pointer (some ⟨b, 0, none⟩), .int .u64 x, .int .i64 N] w fun e w' => e = .returned (.int .i64 0) ∧ RowAt w' base b (cat V n x) (n + N) ∧ KeepsO base (RowBlk w b) w w' := by
  have := row_add_o base b V n x N w h hsz (Nat.lt_of_lt_of_le hx (Nat.pow_le_pow_right (by decide) hN)) hn
  have e0 := addErr_fit x N hN hx
  rwa [addV, addN, if_pos e0, if_pos e0, e0, Int.toNat_natCast] at this

set_option maxHeartbeats 1600000 in
set_option maxRecDepth 1000000 in
theorem law_row (v : Value) (L T x N : Nat) (f : Nat → Nat) (w : World) (h : Rd w v L f) (hf : ∀ j, j < L → f j < 18446744073709551616) (hL : L ≤ 6) (hT : T ≤ 40) (hx : x < 18446744073709551616) (hN : N ≤ 64) :
    Calls Tryd.prog 6 #[caseV v T x N] w fun e w' => ∃ b, e = .returned (.pointer (some ⟨b, 0, none⟩)) ∧ RowAt w' w.heap.size b (rowV f L T x N) (rowN L T N) ∧ More w w' := by
  obtain ⟨ao, cap, rfl⟩ := h.shape
  obtain ⟨w0, hw0⟩ : ∃ w0, (w.alloc (.cells #[.slice ao L cap, .int .u8 T, .int .u64 x, .int .u8 N] 25)) = w0 := ⟨_, rfl⟩
  have hm0 : More w w0 := by rw [← hw0]; exact (Below.refl _ w).alloc (Nat.le_refl _) _
  have c0 : w0.cell? ⟨w.heap.size, 0, none⟩ = some (.slice ao L cap) := by rw [← hw0]; simp
  have c1 : w0.cell? ⟨w.heap.size, 1, none⟩ = some (.int .u8 T) := by rw [← hw0]; simp
  have c2 : w0.cell? ⟨w.heap.size, 2, none⟩ = some (.int .u64 x) := by rw [← hw0]; simp
  have c3 : w0.cell? ⟨w.heap.size, 3, none⟩ = some (.int .u8 N) := by rw [← hw0]; simp
  have hlt : w.heap.size < w0.heap.size := by rw [← hw0]; simp
  have hrow0 : RowAt (w0.alloc (.cells #[.slice none 0 0, .int .i64 0] 55)) w0.heap.size w0.heap.size 0 0 :=
    ⟨Nat.le_refl _, by decide, by decide, _, heap_alloc_new _ _, World.ownsRow_nil _ _ _ _⟩
  have hbel0 : Below w0.heap.size w0 (w0.alloc (.cells #[.slice none 0 0, .int .i64 0] 55)) := (Below.refl w0.heap.size w0).alloc (Nat.le_refl _) _
  have HH := Hid.mk (And.intro h (And.intro hf (And.intro hm0 (And.intro hrow0 (And.intro hbel0 (And.intro hlt (And.intro c0 (And.intro c1 (And.intro c2 c3)))))))))
  have hcut := fun w => cut_low x N hx hN w
  have hy : x % 2 ^ N < 2 ^ N := Nat.mod_lt _ (Nat.two_pow_pos N)
  have HY := Hid.mk (And.intro hy (show rowV f L T x N = cat (turnV f L (L * T)) (64 * (L * T)) (x % 2 ^ N) from rfl))
  have hwT := wrapS T (by omega)
  have hwN := wrapS N (by omega)
  clear h hf hm0 hrow0 hbel0 hlt hy
  generalize x % 2 ^ N = y at *
  go_enter Tryd.func6, Tryd.ntmps6
  go_wp2_with (go_at_call 15; refine (new_row _).mono ?_; rintro e w' ⟨rfl, hw'⟩; subst w')
  clear hw0 c0 c1 c2 c3
  go_loopw [4] (fun c wr => ∃ k M : Nat, k ≤ T ∧ M ≤ 240 ∧ c = .int .i64 k ∧ Hid (M = L * k) ∧ Hid (RowAt wr w0.heap.size w0.heap.size (turnV f L M) (64 * M) ∧ More w0 wr)) (fun c _ => T - (intOf c).toNat)
  case atStart => exact ⟨0, 0, Nat.zero_le _, Nat.zero_le _, rfl, Hid.mk (Nat.mul_zero L).symm, Hid.mk ⟨HH.out.2.2.2.1, HH.out.2.2.2.2.1⟩⟩
  case round =>
    obtain ⟨k, M, hk, hM, rfl, HM, HR⟩ := hrel
    have c1 : wr.cell? ⟨w.heap.size, 1, none⟩ = some (.int .u8 T) := (HR.out.2.cell (p := ⟨w.heap.size, 1, none⟩) HH.out.2.2.2.2.2.1).trans HH.out.2.2.2.2.2.2.2.1
    by_cases hkT : k < T
    · go_wp2
      have HLk := Hid.mk (mul_le_240 hL (show k + 1 ≤ 40 by omega))
      go_loopw [5] (fun c wi => ∃ i M : Nat, i ≤ L ∧ M ≤ 240 ∧ c = .int .i64 i ∧ Hid (M = L * k + i) ∧ Hid (RowAt wi w0.heap.size w0.heap.size (turnV f L M) (64 * M) ∧ More w0 wi)) (fun c _ => L - (intOf c).toNat)
      case atStart => exact ⟨0, M, Nat.zero_le _, hM, rfl, Hid.mk HM.out, Hid.mk HR.out⟩
      case round =>
        obtain ⟨i, m, hi, hm, rfl, Hm, Hr⟩ := hrel
        have c0 : wr.cell? ⟨w.heap.size, 0, none⟩ = some (.slice ao L cap) := (Hr.out.2.cell (p := ⟨w.heap.size, 0, none⟩) HH.out.2.2.2.2.2.1).trans HH.out.2.2.2.2.2.2.1
        by_cases hiL : i < L
        · obtain ⟨g, o, rfl, hc⟩ := HH.out.1.cell (w' := wr) i hiL
          have hck := hc (More.trans HH.out.2.2.1 Hr.out.2)
          clear hc
          have hfi := HH.out.2.1 i hiL
          have hadd := row_fit w0.heap.size w0.heap.size (turnV f L m) (64 * m) (f i) 64 wr Hr.out.1 Hr.out.2.size (by decide) hfi (by omega)
          have hmb : m + 1 ≤ 240 := by have h1 := Hm.out; have h2 := HLk.out; rw [Nat.mul_succ] at h2; omega
          have hst : Hid (cat (turnV f L m) (64 * m) (f i) = turnV f L (m + 1)) := by rw [Hm.out, turnV_succ f L k i hiL]; exact Hid.mk rfl
          go_wp2_with (go_at_call 10; refine hadd.mono ?_; rintro e w1 ⟨rfl, hrow, hkeep⟩; have H1 := Hid.mk (And.intro hrow (Below.trans Hr.out.2 hkeep.below)); clear hrow hkeep)
          refine ⟨⟨i + 1, m + 1, by omega, hmb, by go_num, Hid.mk (by rw [Hm.out, Nat.add_assoc]), Hid.mk ⟨?_, H1.out.2⟩⟩, by simp [intOf]; omega⟩
          rw [← hst.out, Nat.mul_succ]
          exact H1.out.1
        · obtain rfl : i = L := by omega
          go_wp2
          refine ⟨⟨k + 1, m, by omega, hm, by go_num, Hid.mk (by rw [Hm.out, Nat.mul_succ]), Hid.mk Hr.out⟩, by simp [intOf]; omega⟩
    · obtain rfl : k = T := by omega
      go_wp2
      refine wp_region_still_tail 10 (by kernel_rfl) (by kernel_rfl) ?_
      simp only [List.take_succ_cons, List.take_zero, List.drop_succ_cons, List.drop_zero]
      change wpStill _ _ (wr.drewN 1) (fun a' => wpList _ _ _ _ a' (wr.drewN 1)) _ _
      have hmd : More w0 (wr.drewN 1) := More.trans HR.out.2 (More.drewN _ 1)
      have d2 : (wr.drewN 1).cell? ⟨w.heap.size, 2, none⟩ = some (.int .u64 x) := (hmd.cell (p := ⟨w.heap.size, 2, none⟩) HH.out.2.2.2.2.2.1).trans HH.out.2.2.2.2.2.2.2.2.1
      have d3 : (wr.drewN 1).cell? ⟨w.heap.size, 3, none⟩ = some (.int .u8 N) := (hmd.cell (p := ⟨w.heap.size, 3, none⟩) HH.out.2.2.2.2.2.1).trans HH.out.2.2.2.2.2.2.2.2.2
      have hadd := row_fit w0.heap.size w0.heap.size (turnV f L M) (64 * M) y N (wr.drewN 1) ((More.drewN wr 1).row HR.out.1) hmd.size hN HY.out.1 (by omega)
      have HD := Hid.mk hmd
      clear c1 hmd HR
      generalize wr.drewN 1 = w1 at *
      iterate 6 still_step
      still_call (hcut _)
      iterate 3 still_step
      refine wpStill_nil ?_
      go_wp2_with (go_at_call 10; refine hadd.mono ?_; rintro e w2 ⟨rfl, hrow, hkeep⟩; have H1 := Hid.mk (And.intro hrow (Below.trans HD.out hkeep.below)); clear hrow hkeep)
      go_ret
      refine ⟨_, rfl, ?_, More.trans HH.out.2.2.1 H1.out.2⟩
      rw [HY.out.2, rowN, ← HM.out]
      obtain ⟨a1, a2, a3, a4⟩ := H1.out.1
      exact ⟨by have := HH.out.2.2.1.size; omega, a2, a3, by obtain ⟨v, hv, ho⟩ := a4; exact ⟨v, hv, own_lower ho HH.out.2.2.1.size⟩⟩

end Go.Proofs.YtmhbejgmcphebaaDoor
