/-
  Packs of words, by the program and by the document; what 'is' tells.
-/
import Derived.Test.YtbfolfacppbalaaDoorPackRef
namespace Go.Proofs.YtbfolfacppbalaaDoor
open Go.RowKit

theorem of_bad (v : Value) (d n : Int) (w : World) (h : ¬ (0 ≤ d ∧ d ≤ 64) ∨ n < 0 ∨ 67108864 < n) :
    Calls Tryd.prog 65 #[.int .i64 d, .int .i64 n, v] w fun e w' => e = .returned (.tuple #[.pointer none, .int .i64 1]) ∧ w' = w := by
  have hm := fun w => may_be d w
  by_cases hd : 0 ≤ d ∧ d ≤ 64
  · rw [show decide (0 ≤ d ∧ d ≤ 64) = true by simpa using hd] at hm
    rcases (show n < 0 ∨ (0 ≤ n ∧ 67108864 < n) by omega) with hn | ⟨hn, hn2⟩
    all_goals
      clear h hd
      go_enter Tryd.func65, Tryd.ntmps65
      go_wp2_with (go_at_call 90; refine (hm _).mono ?_; rintro e w1 ⟨rfl, hw⟩; subst w1)
      go_ret2
      exact ⟨rfl, rfl⟩
  · rw [show decide (0 ≤ d ∧ d ≤ 64) = false by simpa using hd] at hm
    clear h hd
    go_enter Tryd.func65, Tryd.ntmps65
    go_wp2_with (go_at_call 90; refine (hm _).mono ?_; rintro e w1 ⟨rfl, hw⟩; subst w1)
    go_ret2
    exact ⟨rfl, rfl⟩

theorem mul_fits (d n M : Nat) (hd : d ≤ 64) (hn : n ≤ 67108864) (hM : d * n = M) : M ≤ 4294967296 ∧ (n : Int) * (d : Int) = (M : Int) ∧ (d : Int) * (n : Int) = (M : Int) ∧ IntKind.i64.wrap (M : Int) = (M : Int) := by
  have hMb : M ≤ 4294967296 := by rw [← hM]; exact Nat.le_trans (Nat.mul_le_mul hd hn) (by decide)
  refine ⟨hMb, ?_, ?_, ?_⟩
  · rw [← hM, Int.natCast_mul, Int.mul_comm]
  · rw [← hM, Int.natCast_mul]
  · rw [IntKind.wrap_i64]; omega

theorem pof_short (v : Value) (K d n : Nat) (f : Nat → Nat) (w : World) (h : Rd w v K f) (hK : K ≤ 1000000) (hd : d ≤ 64) (hn : n ≤ 67108864) (hs : K ≠ nw (d * n)) :
    Calls Tryd.prog 65 #[.int .i64 d, .int .i64 n, v] w fun e w' => e = .returned (.tuple #[.pointer none, .int .i64 1]) ∧ w' = w := by
  obtain ⟨M, hM⟩ : ∃ M, d * n = M := ⟨_, rfl⟩
  obtain ⟨hMb, hMi, _, hMw⟩ := mul_fits d n M hd hn hM
  rw [hM] at hs
  have ho := of_short v K (M : Int) f w h (by omega) (by omega) (.inr (by simpa using hs))
  have hm := fun w => may_be d w
  rw [show decide (0 ≤ (d : Int) ∧ (d : Int) ≤ 64) = true by simp; omega] at hm
  obtain ⟨ao, cap, rfl⟩ := h.shape
  clear h hs hM
  go_enter Tryd.func65, Tryd.ntmps65
  go_wp2_with (first
    | (go_at_call 90; refine (hm _).mono ?_; rintro e w1 ⟨rfl, hw⟩; subst w1)
    | (go_at_call 52; refine ho.mono ?_; rintro e w1 ⟨rfl, hw⟩; subst w1))
  go_ret2
  exact ⟨rfl, rfl⟩

theorem pof_form (v : Value) (K d n : Nat) (f : Nat → Nat) (w : World) (h : Rd w v K f) (hf : ∀ j, j < K → f j < 18446744073709551616) (hd : d ≤ 64) (hn : n ≤ 67108864) (hK : K = nw (d * n)) (hfit : ¬ ofW f K < 2 ^ (d * n)) :
    Calls Tryd.prog 65 #[.int .i64 d, .int .i64 n, v] w fun e w' => e = .returned (.tuple #[.pointer none, .int .i64 3]) ∧ ∃ m, w' = w.drewN m := by
  obtain ⟨M, hM⟩ : ∃ M, d * n = M := ⟨_, rfl⟩
  obtain ⟨hMb, hMi, _, hMw⟩ := mul_fits d n M hd hn hM
  rw [hM] at hK hfit
  have ho := of_form v K M f w h hf (by omega) hK hfit
  have hm := fun w => may_be d w
  rw [show decide (0 ≤ (d : Int) ∧ (d : Int) ≤ 64) = true by simp; omega] at hm
  obtain ⟨ao, cap, rfl⟩ := h.shape
  clear h hK hfit hM hf
  go_enter Tryd.func65, Tryd.ntmps65
  go_wp2_with (first
    | (go_at_call 90; refine (hm _).mono ?_; rintro e w1 ⟨rfl, hw⟩; subst w1)
    | (go_at_call 52; refine ho.mono ?_; rintro e w1 ⟨rfl, m, hw⟩; subst w1))
  go_ret2
  exact ⟨rfl, _, rfl⟩

theorem pof_pack (v : Value) (K d n : Nat) (f : Nat → Nat) (w : World) (h : Rd w v K f) (hf : ∀ j, j < K → f j < 18446744073709551616) (hd : d ≤ 64) (hn : n ≤ 67108864) (hK : K = nw (d * n)) (hfit : ofW f K < 2 ^ (d * n)) :
    Calls Tryd.prog 65 #[.int .i64 d, .int .i64 n, v] w fun e w' => ∃ p, e = .returned (.tuple #[.pointer (some ⟨p, 0, none⟩), .int .i64 0]) ∧ PackAt w' w.heap.size p (ofW f K) d n ∧ More w w' := by
  obtain ⟨M, hM⟩ : ∃ M, d * n = M := ⟨_, rfl⟩
  obtain ⟨hMb, hMi, _, hMw⟩ := mul_fits d n M hd hn hM
  rw [hM] at hK hfit
  have ho := of_row v K M f w h hf (by omega) hK hfit
  have hm := fun w => may_be d w
  rw [show decide (0 ≤ (d : Int) ∧ (d : Int) ≤ 64) = true by simp; omega] at hm
  obtain ⟨ao, cap, rfl⟩ := h.shape
  have HM : Hid _ := hM
  clear h hK hfit hM hf
  go_enter Tryd.func65, Tryd.ntmps65
  go_wp2_with (first
    | (go_at_call 90; refine (hm _).mono ?_; rintro e w1 ⟨rfl, hw⟩; subst w1)
    | (go_at_call 52; refine ho.mono ?_; rintro e w1 ⟨b, rfl, hr, hk⟩; have H1 := Hid.mk (And.intro hr hk.below); clear hr hk))
  go_ret2
  refine ⟨_, rfl, ⟨H1.out.2.size, hd, hn, _, heap_alloc_new _ _, ?_⟩, H1.out.2.alloc H1.out.2.size _⟩
  rw [HM.out]
  exact More.row H1.out.1 ((Below.refl w1.heap.size w1).alloc (Nat.le_refl _) _)

theorem same_as (a b : Value) (K : Nat) (f : Nat → Nat) (w : World) (h : Rd w a K f) (h' : Rd w b K f) (hK : K ≤ 1099511627776) :
    Calls Tryd.prog 19 #[a, b] w fun e w' => e = .returned (.bool true) ∧ ∃ m, w' = w.drewN m := by
  refine (ref_same a b K K f f w h h' hK hK).mono ?_
  rintro e w' ⟨r, rfl, hr, hm⟩
  rw [hr.2 ⟨rfl, fun _ _ => rfl⟩]
  exact ⟨rfl, hm⟩

end Go.Proofs.YtbfolfacppbalaaDoor
