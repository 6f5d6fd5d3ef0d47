/-
  DirGoes, whatever the case is.
-/
import Derived.Test.YtmhbejgmcphebaaDoorSelLawC
namespace Go.Proofs.YtmhbejgmcphebaaDoor
open Go.RowKit

set_option maxHeartbeats 1600000 in
set_option maxRecDepth 1000000 in
theorem goes_big (v : Value) (L T x N : Nat) (f : Nat → Nat) (k stop : Int) (w : World) (h : Rd w v L f) (hL : L ≤ 9223372036854775807) (hT : T ≤ 255) (hN : N ≤ 255) (hbig : ¬ ((L ≤ 6 ∧ T ≤ 40 ∧ N ≤ 64) ∧ T ≤ 8)) :
    Calls Tryd.prog 3 #[caseV v T x N, .int .i64 k, .int .i64 stop] w fun e W' => e = .returned (.bool true) ∧ Below w.heap.size w W' := by
  obtain ⟨ao, cap, rfl⟩ := h.shape
  clear h
  obtain ⟨w3, hw3⟩ : ∃ w3, ((w.alloc (.cells #[.slice ao L cap, .int .u8 T, .int .u64 x, .int .u8 N] 25)).alloc (.cells #[.int .i64 stop] 3)).alloc (.cells #[.bool false] 4) = w3 := ⟨_, rfl⟩
  have hM3 : More w w3 := by
    rw [← hw3]
    exact (((Below.refl _ w).alloc (Nat.le_refl _) _).alloc (by simp) _).alloc (by simp; omega) _
  have hc3 : CaseAt w3 w.heap.size (.slice ao L cap) T x N := by
    rw [← hw3]
    exact ((CaseAt.new w _ _ _ _).more (more_alloc _ _)).more (more_alloc _ _)
  have b2 : Boxed w3 (w.heap.size + 1 + 1) 4 (.bool false) := by
    have := Boxed.new ((w.alloc (.cells #[.slice ao L cap, .int .u8 T, .int .u64 x, .int .u8 N] 25)).alloc (.cells #[.int .i64 stop] 3)) 4 (.bool false)
    rw [World.size_alloc, World.size_alloc] at this
    rw [← hw3]; exact this
  have hsm := small ao L cap T x N w3 hL hT hN
  have H0 := Hid.mk (And.intro hM3 (And.intro hc3 b2))
  obtain ⟨c0, c1, c2, c3⟩ := hc3
  clear hM3 b2
  by_cases hS : L ≤ 6 ∧ T ≤ 40 ∧ N ≤ 64
  · rw [decide_eq_true hS] at hsm
    have hT8 : ¬ T ≤ 8 := fun h => hbig ⟨hS, h⟩
    clear hbig hS
    go_enter Tryd.func3, Tryd.ntmps3
    go_wp2_with (first
      | (go_at_call 4; refine hsm.mono ?_; rintro e w4 ⟨rfl, hm⟩; obtain ⟨d0, d1, d2, d3⟩ := H0.out.2.1.more hm; have H4 := Hid.mk hm; clear hm hsm)
      | (go_at_call 5; refine (live_true _).mono ?_; rintro e w5 ⟨rfl, hm⟩; have br := boxed_more H0.out.2.2 (More.trans H4.out hm); have cr := br.cell; have fr := br.frozen; have hc := (br.set (.bool true)).cell; have H5 := Hid.mk (More.trans H4.out hm); clear hm))
    refine bodyPost_ret (v := .bool true) ?_ rfl ⟨rfl, ?_⟩
    · simp [results, Tryd.f3, go_sem, hc]
    · exact (More.trans H0.out.1 H5.out).setCell (p := ⟨w.heap.size + 1 + 1, 0, none⟩) (by simp; omega) _
  · rw [decide_eq_false hS] at hsm
    clear hbig hS
    go_enter Tryd.func3, Tryd.ntmps3
    go_wp2_with (first
      | (go_at_call 4; refine hsm.mono ?_; rintro e w4 ⟨rfl, hm⟩; have H4 := Hid.mk hm; clear hm hsm)
      | (go_at_call 5; refine (live_true _).mono ?_; rintro e w5 ⟨rfl, hm⟩; have br := boxed_more H0.out.2.2 (More.trans H4.out hm); have cr := br.cell; have fr := br.frozen; have hc := (br.set (.bool true)).cell; have H5 := Hid.mk (More.trans H4.out hm); clear hm))
    refine bodyPost_ret (v := .bool true) ?_ rfl ⟨rfl, ?_⟩
    · simp [results, Tryd.f3, go_sem, hc]
    · exact (More.trans H0.out.1 H5.out).setCell (p := ⟨w.heap.size + 1 + 1, 0, none⟩) (by simp; omega) _

theorem dirGoes (v : Value) (L T x N : Nat) (f : Nat → Nat) (k stop : Int) (w : World) (h : Rd w v L f) (hf : ∀ j, j < L → f j < 18446744073709551616) (hL : L ≤ 9223372036854775807) (hT : T ≤ 255) (hx : x < 18446744073709551616) (hN : N ≤ 255) (hTab : TabIn w) :
    Calls Tryd.prog 3 #[caseV v T x N, .int .i64 k, .int .i64 stop] w fun e W' => e = .returned (.bool true) ∧ Below w.heap.size w W' := by
  by_cases hS : (L ≤ 6 ∧ T ≤ 40 ∧ N ≤ 64) ∧ T ≤ 8
  · exact (callsIn_wide (n := 8)).1 (goes 8 (Nat.le_refl _) v L T x N f k stop w h hf hS.1.1 hS.2 hx hS.1.2.2 hTab)
  · exact goes_big v L T x N f k stop w h hL hT hN hS

end Go.Proofs.YtmhbejgmcphebaaDoor
