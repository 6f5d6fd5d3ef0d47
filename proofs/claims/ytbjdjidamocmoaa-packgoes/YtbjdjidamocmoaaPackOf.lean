/-
  Packs of words, by the program and by the document; what 'is' tells.
-/
import Derived.Test.YtbjdjidamocmoaaPackRef
namespace Go.Proofs.Ytbjdjidamocmoaa
open Go.RowKit

theorem of_bad (v : Value) (d n : Int) (w : World) (h : ¬ (0 ≤ d ∧ d ≤ 64) ∨ n < 0 ∨ 67108864 < n) :
    Calls Try.prog 16 #[.int .i64 d, .int .i64 n, v] w fun e w' => e = .returned (.tuple #[.pointer none, .int .i64 1]) ∧ w' = w := by
  have hm := fun w => may_be d w
  by_cases hd : 0 ≤ d ∧ d ≤ 64
  · rw [show decide (0 ≤ d ∧ d ≤ 64) = true by simpa using hd] at hm
    rcases (show n < 0 ∨ (0 ≤ n ∧ 67108864 < n) by omega) with hn | ⟨hn, hn2⟩
    all_goals
      clear h hd
      go_enter Try.func16, Try.ntmps16
      go_wp2_with (go_at_call 23; refine (hm _).mono ?_; rintro e w1 ⟨rfl, hw⟩; subst w1)
      go_ret2
      exact ⟨rfl, rfl⟩
  · rw [show decide (0 ≤ d ∧ d ≤ 64) = false by simpa using hd] at hm
    clear h hd
    go_enter Try.func16, Try.ntmps16
    go_wp2_with (go_at_call 23; refine (hm _).mono ?_; rintro e w1 ⟨rfl, hw⟩; subst w1)
    go_ret2
    exact ⟨rfl, rfl⟩

theorem mul_fits (d n M : Nat) (hd : d ≤ 64) (hn : n ≤ 67108864) (hM : d * n = M) : M ≤ 4294967296 ∧ (n : Int) * (d : Int) = (M : Int) ∧ (d : Int) * (n : Int) = (M : Int) ∧ IntKind.i64.wrap (M : Int) = (M : Int) := by
  have hMb : M ≤ 4294967296 := by rw [← hM]; exact Nat.le_trans (Nat.mul_le_mul hd hn) (by decide)
  refine ⟨hMb, ?_, ?_, ?_⟩
  · rw [← hM, Int.natCast_mul, Int.mul_comm]
  · rw [← hM, Int.natCast_mul]
  · rw [IntKind.wrap_i64]; omega

theorem pof_short (v : Value) (K d n : Nat) (f : Nat → Nat) (w : World) (h : Rd w v K f) (hK : K ≤ 1000000) (hd : d ≤ 64) (hn : n ≤ 67108864) (hs : K ≠ nw (d * n)) :
    Calls Try.prog 16 #[.int .i64 d, .int .i64 n, v] w fun e w' => e = .returned (.tuple #[.pointer none, .int .i64 1]) ∧ w' = w := by
  obtain ⟨M, hM⟩ : ∃ M, d * n = M := ⟨_, rfl⟩
  obtain ⟨hMb, hMi, _, hMw⟩ := mul_fits d n M hd hn hM
  rw [hM] at hs
  have ho := of_short v K (M : Int) f w h (by omega) (by omega) (.inr (by simpa using hs))
  have hm := fun w => may_be d w
  rw [show decide (0 ≤ (d : Int) ∧ (d : Int) ≤ 64) = true by simp; omega] at hm
  obtain ⟨ao, cap, rfl⟩ := h.shape
  clear h hs hM
  go_enter Try.func16, Try.ntmps16
  go_wp2_with (first
    | (go_at_call 23; refine (hm _).mono ?_; rintro e w1 ⟨rfl, hw⟩; subst w1)
    | (go_at_call 31; refine ho.mono ?_; rintro e w1 ⟨rfl, hw⟩; subst w1))
  go_ret2
  exact ⟨rfl, rfl⟩

theorem pof_form (v : Value) (K d n : Nat) (f : Nat → Nat) (w : World) (h : Rd w v K f) (hf : ∀ j, j < K → f j < 18446744073709551616) (hd : d ≤ 64) (hn : n ≤ 67108864) (hK : K = nw (d * n)) (hfit : ¬ ofW f K < 2 ^ (d * n)) :
    Calls Try.prog 16 #[.int .i64 d, .int .i64 n, v] w fun e w' => e = .returned (.tuple #[.pointer none, .int .i64 3]) ∧ ∃ m, w' = w.drewN m := by
  obtain ⟨M, hM⟩ : ∃ M, d * n = M := ⟨_, rfl⟩
  obtain ⟨hMb, hMi, _, hMw⟩ := mul_fits d n M hd hn hM
  rw [hM] at hK hfit
  have ho := of_form v K M f w h hf (by omega) hK hfit
  have hm := fun w => may_be d w
  rw [show decide (0 ≤ (d : Int) ∧ (d : Int) ≤ 64) = true by simp; omega] at hm
  obtain ⟨ao, cap, rfl⟩ := h.shape
  clear h hK hfit hM hf
  go_enter Try.func16, Try.ntmps16
  go_wp2_with (first
    | (go_at_call 23; refine (hm _).mono ?_; rintro e w1 ⟨rfl, hw⟩; subst w1)
    | (go_at_call 31; refine ho.mono ?_; rintro e w1 ⟨rfl, m, hw⟩; subst w1))
  go_ret2
  exact ⟨rfl, _, rfl⟩

theorem pof_pack (v : Value) (K d n : Nat) (f : Nat → Nat) (w : World) (h : Rd w v K f) (hf : ∀ j, j < K → f j < 18446744073709551616) (hd : d ≤ 64) (hn : n ≤ 67108864) (hK : K = nw (d * n)) (hfit : ofW f K < 2 ^ (d * n)) :
    Calls Try.prog 16 #[.int .i64 d, .int .i64 n, v] w fun e w' => ∃ p, e = .returned (.tuple #[.pointer (some ⟨p, 0, none⟩), .int .i64 0]) ∧ PackAt w' w.heap.size p (ofW f K) d n ∧ More w w' := by
  obtain ⟨M, hM⟩ : ∃ M, d * n = M := ⟨_, rfl⟩
  obtain ⟨hMb, hMi, _, hMw⟩ := mul_fits d n M hd hn hM
  rw [hM] at hK hfit
  have ho := of_row v K M f w h hf (by omega) hK hfit
  have hm := fun w => may_be d w
  rw [show decide (0 ≤ (d : Int) ∧ (d : Int) ≤ 64) = true by simp; omega] at hm
  obtain ⟨ao, cap, rfl⟩ := h.shape
  have HM : Hid _ := hM
  clear h hK hfit hM hf
  go_enter Try.func16, Try.ntmps16
  go_wp2_with (first
    | (go_at_call 23; refine (hm _).mono ?_; rintro e w1 ⟨rfl, hw⟩; subst w1)
    | (go_at_call 31; refine ho.mono ?_; rintro e w1 ⟨b, rfl, hr, hk⟩; have H1 := Hid.mk (And.intro hr hk.below); clear hr hk))
  go_ret2
  refine ⟨_, rfl, ⟨H1.out.2.size, hd, hn, _, heap_alloc_new _ _, ?_⟩, H1.out.2.alloc H1.out.2.size _⟩
  rw [HM.out]
  exact More.row H1.out.1 ((Below.refl w1.heap.size w1).alloc (Nat.le_refl _) _)

theorem refp_of_not (v : Value) (K d n : Nat) (f : Nat → Nat) (w : World) (h : Rd w v K f) (hf : ∀ j, j < K → f j < 18446744073709551616) (hKl : K ≤ 1000000) (hd : d ≤ 64) (hn : n ≤ 67108864) (hK : K = nw (d * n)) (hfit : ¬ ofW f K < 2 ^ (d * n)) :
    Calls Try.prog 17 #[.int .i64 d, .int .i64 n, v] w fun e w' => e = .returned (.tuple #[.slice none 0 0, .bool false]) ∧ More w w' := by
  obtain ⟨M, hM⟩ : ∃ M, d * n = M := ⟨_, rfl⟩
  obtain ⟨hMb, _, hMi, hMw⟩ := mul_fits d n M hd hn hM
  rw [hM] at hK hfit
  have hr := ref_of v K M f w h hf hKl (by unfold nw at hK; omega)
  obtain ⟨ao, cap, rfl⟩ := h.shape
  clear h hM hf hK
  go_enter Try.func17, Try.ntmps17
  go_wp2_with (go_at_call 32; refine hr.mono ?_; rintro e w1 ⟨v1, r, rfl, hown, hr1, hm1⟩; (obtain rfl : r = false := by (cases r; rfl; exact absurd (hr1.1 rfl).2 hfit)); have H1 := Hid.mk (And.intro hown hm1); clear hown hm1 hr1; obtain ⟨ao1, cap1, hs1⟩ := shape_of H1.out.1; subst hs1)
  go_ret2
  exact ⟨rfl, H1.out.2⟩

set_option maxRecDepth 1000000 in
theorem refp_of_yes (v : Value) (K d n : Nat) (f : Nat → Nat) (w : World) (h : Rd w v K f) (hf : ∀ j, j < K → f j < 18446744073709551616) (hKl : K ≤ 1000000) (hd : d ≤ 64) (hn : n ≤ 67108864) (hK : K = nw (d * n)) (hfit : ofW f K < 2 ^ (d * n)) :
    Calls Try.prog 17 #[.int .i64 d, .int .i64 n, v] w fun e w' => ∃ v', e = .returned (.tuple #[v', .bool true]) ∧ w'.ownsRow w.heap.size 31 1 v' n (u64s (fun i => ofW f K / 2 ^ (d * i) % 2 ^ d) n) ∧ More w w' := by
  obtain ⟨i0, hi, hz0, hz1, hz2⟩ := info_parts Try.info36
  obtain ⟨M, hM⟩ : ∃ M, d * n = M := ⟨_, rfl⟩
  obtain ⟨hMb, _, hMi, hMw⟩ := mul_fits d n M hd hn hM
  rw [hM] at hK hfit
  have hr := ref_of v K M f w h hf hKl (by unfold nw at hK; omega)
  rw [Nat.mod_eq_of_lt hfit] at hr
  obtain ⟨ao, cap, rfl⟩ := h.shape
  obtain ⟨W, hW⟩ : ∃ W, ofW f K = W := ⟨_, rfl⟩
  rw [hW] at hr hfit ⊢
  have HH : Hid _ := And.intro hfit (And.intro hK hM)
  clear h hM hf hK hfit hW
  go_enter Try.func17, Try.ntmps17
  go_wp2_with (go_at_call 32; refine hr.mono ?_; rintro e w1 ⟨v1, r, rfl, hown, hr1, hm1⟩; (obtain rfl : r = true := hr1.2 ⟨HH.out.2.1, HH.out.1⟩); have H1 := Hid.mk (And.intro hown hm1); clear hown hm1 hr1; obtain ⟨ao1, cap1, hs1⟩ := shape_of H1.out.1; subst hs1)
  go_loopw [10, 11] (fun s i wr => ∃ k : Nat, k ≤ n ∧ i = .int .i64 k ∧ Hid (wr.ownsRow w1.heap.size 31 1 s k (u64s (fun i => W / 2 ^ (d * i) % 2 ^ d) k) ∧ More w1 wr)) (fun _ i _ => n - (intOf i).toNat)
  case atStart => exact ⟨0, Nat.zero_le _, rfl, Hid.mk ⟨World.ownsRow_nil _ _ _ _, Below.refl _ _⟩⟩
  case round =>
    obtain ⟨k, hk, rfl, hown⟩ := hrel
    obtain ⟨ao2, cap2, hs2⟩ := shape_of hown.out.1
    subst hs2
    by_cases hkn : k < n
    · obtain ⟨I, hI⟩ : ∃ I, d * k = I := ⟨_, rfl⟩
      obtain ⟨hIb, hIi, _, hIw⟩ := mul_fits d k I hd (by omega) hI
      have hcut := ref_cut (.slice ao1 M cap1) M W (I : Int) (d : Int) wr ((brd_of_own H1.out.1).more hown.out.2) HH.out.1 (by omega) (by omega) (by omega)
      have hX : cutV W (I : Int) (min 64 (d : Int).toNat) = W / 2 ^ (d * k) % 2 ^ d := by
        unfold cutV
        rw [if_neg (by omega), Int.toNat_natCast, Int.toNat_natCast, hI, Nat.min_eq_right hd]
      rw [hX] at hcut
      obtain ⟨X, hXe⟩ : ∃ X, W / 2 ^ (d * k) % 2 ^ d = X := ⟨_, rfl⟩
      rw [hXe] at hcut
      have HX : Hid _ := hXe
      clear hX hXe hI
      have hsz := hown.out.2.size
      go_wp2_with (first
        | (go_at_call 33; refine hcut.mono ?_; rintro e w' ⟨rfl, hw'⟩; subst w')
        | (at_builtin; refine wpList_append_own _ rfl (.tmp 27) (.tmp 34) 22 rfl w1.heap.size 31 i0 (.int .u64 0) 1 8 Try.underlying22 hi hz0 hz1 hz2 rfl (by decide) _ _ _ rfl (hown.out.1.alloc _) ⟨_, 0, none⟩ 1 1 [.int .u64 (X : Nat)] rfl rfl ?c1 ?c2b ?c3b ?c4b ?c5b ?_))
      case c1 => exact one_cell _ _ _
      case c2b => exact one_u64 _
      case c3b => unfold maxLen; omega
      case c4b => omega
      case c5b => simp; omega
      intro v2 w2 hown2 hgrow2 _
      rw [← HX.out, ← u64s_succ (fun i => W / 2 ^ (d * i) % 2 ^ d)] at hown2
      have hbel2 : More w1 w2 := (hown.out.2.alloc hown.out.2.size _).grown hgrow2 (by have := hown.out.2.size; simp; omega) (fun j hj => (hown.out.1.lt j hj).1)
      have HG : Hid _ := And.intro hown2 hbel2
      clear hown2 hbel2 hgrow2 hown hcut
      go_wp2
      refine ⟨⟨k + 1, by omega, by go_num, Hid.mk HG.out⟩, by simp [intOf]; omega⟩
    · obtain rfl : k = n := by omega
      go_wp2
      go_ret2
      exact ⟨_, rfl, own_lower hown.out.1 H1.out.2.size, More.trans H1.out.2 hown.out.2⟩

theorem same_as (a b : Value) (K : Nat) (f : Nat → Nat) (w : World) (h : Rd w a K f) (h' : Rd w b K f) (hK : K ≤ 1099511627776) :
    Calls Try.prog 22 #[a, b] w fun e w' => e = .returned (.bool true) ∧ ∃ m, w' = w.drewN m := by
  refine (ref_same a b K K f f w h h' hK hK).mono ?_
  rintro e w' ⟨r, rfl, hr, hm⟩
  rw [hr.2 ⟨rfl, fun _ _ => rfl⟩]
  exact ⟨rfl, hm⟩

set_option maxRecDepth 1000000 in
/-- Of a pack that has just these numbers 'is' tells so. -/
theorem is_pack (v : Value) (base p d n : Nat) (f : Nat → Nat) (w : World) (hp : PackAt w base p (packV d f n) d n) (h : Rd w v n f) (hf : ∀ j, j < n → f j < 2 ^ d) (hn : n ≤ 1000000) :
    Calls Try.prog 10 #[.pointer (some ⟨p, 0, none⟩), .int .i64 d, v] w fun e w' => e = .returned (.bool true) ∧ More w w' := by
  have hl := pack_len p _ d n w hp.rd
  have hwi := pack_width p _ d n w hp.rd
  have hwo := pack_words base p _ d n w hp
  have hrw := fun (w' : World) (k : More w w') => refp_words v n d f w' (h.more k) hf hp.wid hn
  obtain ⟨ao, cap, rfl⟩ := h.shape
  have hnl : d * n ≤ 64000000 := by
    have := Nat.mul_le_mul hp.wid hn
    omega
  have HH : Hid _ := And.intro hp (And.intro h (And.intro hf hnl))
  clear hp h hf hnl
  go_enter Try.func10, Try.ntmps10
  go_wp2_with (first
    | (go_at_call 13; refine hl.mono ?_; rintro e w1 ⟨rfl, hw⟩; subst w1)
    | (go_at_call 14; refine hwi.mono ?_; rintro e w1 ⟨rfl, hw⟩; subst w1)
    | (go_at_call 15; refine hwo.mono ?_; rintro e w3 ⟨v3, rfl, hown3, hm3⟩; have H3 := Hid.mk (And.intro hown3 hm3); clear hown3 hm3; obtain ⟨ao3, cap3, hs3⟩ := shape_of H3.out.1; subst hs3)
    | (go_at_call 27; refine (hrw _ H3.out.2).mono ?_; rintro e w4 ⟨v4, rfl, hown4, hm4⟩; have H4 := Hid.mk (And.intro hown4 hm4); clear hown4 hm4; obtain ⟨ao4, cap4, hs4⟩ := shape_of H4.out.1; subst hs4)
    | (go_at_call 22; refine (same_as _ _ (nw (d * n)) (wd (packV d f n)) _ (rd_of_own (More.own H3.out.1 H4.out.2)) (rd_of_own H4.out.1) (by have := HH.out.2.2.2; unfold nw; omega)).mono ?_; rintro e w5 ⟨rfl, m5, hw5⟩; subst w5))
  have HM : Hid _ := More.trans (More.trans H3.out.2 H4.out.2) (More.drewN w4 m5)
  go_loopw [7] (fun i wr => ∃ k : Nat, k ≤ n ∧ i = .int .i64 k ∧ Hid (More w wr)) (fun i _ => n - (intOf i).toNat)
  case atStart => exact ⟨0, Nat.zero_le _, rfl, HM⟩
  case round =>
    obtain ⟨k, hk, rfl, hwr⟩ := hrel
    by_cases hkn : k < n
    · obtain ⟨g, o, rfl, hc⟩ := HH.out.2.1.cell (w' := wr) k hkn
      have hck := hc hwr.out
      clear hc
      have hat := fun m' => pack_at p _ d n k (wr.drewN m') ((HH.out.1.more hwr.out).rd.drewN m')
      rw [atV_pack d f n k HH.out.2.2.1 hkn] at hat
      go_wp2_with fail
      go_quiet ((go_at_call 12; exact Calls.quiet_of (hat _)))
      go_wp2
      refine ⟨⟨k + 1, by omega, by go_num, Hid.mk (More.trans hwr.out (More.drewN _ _))⟩, by simp [intOf]; omega⟩
    · obtain rfl : k = n := by omega
      go_wp2
      go_ret
      exact ⟨rfl, hwr.out⟩

end Go.Proofs.Ytbjdjidamocmoaa
