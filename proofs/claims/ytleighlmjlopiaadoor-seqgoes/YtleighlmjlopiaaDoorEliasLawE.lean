/-
  SeqGoes walked: of every list.
-/
import Derived.Test.YtleighlmjlopiaaDoorEliasLawD
namespace Go.Proofs.YtleighlmjlopiaaDoor
open Go.RowKit

theorem boxes3 (w : World) (ao : Option Addr) (K cap : Nat) (stop : Int) (w3 : World) (hw3 : ((w.alloc (.cells #[.slice ao K cap] 22)).alloc (.cells #[.int .i64 stop] 3)).alloc (.cells #[.bool false] 4) = w3) :
    More w w3 ∧ w3.cell? ⟨w.heap.size, 0, none⟩ = some (.slice ao K cap) ∧ Boxed w3 (w.heap.size + 1 + 1) 4 (.bool false) := by
  refine ⟨?_, ?_, ?_⟩
  · rw [← hw3]
    exact (((Below.refl _ w).alloc (Nat.le_refl _) _).alloc (by simp) _).alloc (by simp; omega) _
  · have : Boxed w3 w.heap.size 22 (.slice ao K cap) := by
      rw [← hw3]; exact ((Boxed.new w 22 (.slice ao K cap)).alloc _).alloc _
    exact this.cell
  · have := Boxed.new ((w.alloc (.cells #[.slice ao K cap] 22)).alloc (.cells #[.int .i64 stop] 3)) 4 (.bool false)
    rw [World.size_alloc, World.size_alloc] at this
    rw [← hw3]; exact this

set_option maxHeartbeats 1600000 in
set_option maxRecDepth 1000000 in
theorem goes_big (v : Value) (K : Nat) (g : Nat → Int) (stop : Int) (w : World) (h : ZRd w v K g) (hK : K ≤ 9223372036854775807) (hb : 80 < K) :
    Calls Tryd.prog 3 #[v, .int .i64 stop] w fun e W' => e = .returned (.bool true) ∧ Below w.heap.size w W' := by
  obtain ⟨ao, cap, rfl⟩ := h.shape
  clear h
  obtain ⟨w3, hw3⟩ : ∃ w3, ((w.alloc (.cells #[.slice ao K cap] 22)).alloc (.cells #[.int .i64 stop] 3)).alloc (.cells #[.bool false] 4) = w3 := ⟨_, rfl⟩
  obtain ⟨hM3, cl, b2⟩ := boxes3 w ao K cap stop w3 hw3
  have H0 := Hid.mk (And.intro hM3 b2)
  clear hM3 b2
  go_enter Tryd.func3, Tryd.ntmps3
  go_wp2_with (go_at_call 5; refine (el_live _).mono ?_; rintro e w5 ⟨rfl, hm⟩; have br := boxed_more H0.out.2 hm; have cr := br.cell; have fr := br.frozen; have hc := (br.set (.bool true)).cell; have H5 := Hid.mk hm; clear hm)
  refine bodyPost_ret (v := .bool true) ?_ rfl ⟨rfl, ?_⟩
  · simp [results, Tryd.f3, go_sem, hc]
  · exact (More.trans H0.out.1 H5.out).setCell (p := ⟨w.heap.size + 1 + 1, 0, none⟩) (by simp; omega) _

set_option maxHeartbeats 1600000 in
set_option maxRecDepth 1000000 in
theorem goes_bad (v : Value) (K : Nat) (g : Nat → Int) (stop : Int) (w : World) (h : ZRd w v K g) (hb : K ≤ 80) (h0 : wrg g K ≠ 0) :
    Calls Tryd.prog 3 #[v, .int .i64 stop] w fun e W' => e = .returned (.bool true) ∧ Below w.heap.size w W' := by
  obtain ⟨ao, cap, rfl⟩ := h.shape
  obtain ⟨w3, hw3⟩ : ∃ w3, ((w.alloc (.cells #[.slice ao K cap] 22)).alloc (.cells #[.int .i64 stop] 3)).alloc (.cells #[.bool false] 4) = w3 := ⟨_, rfl⟩
  obtain ⟨hM3, cl, b2⟩ := boxes3 w ao K cap stop w3 hw3
  have hw := ref_wrong _ K g w3 (h.more hM3) (by omega)
  have H0 := Hid.mk (And.intro hM3 b2)
  generalize wrg g K = E at *
  have hE : (E != 0) = true := by simpa using h0
  clear h hM3 b2
  go_enter Tryd.func3, Tryd.ntmps3
  go_wp2_with (first
    | (go_at_call 4; refine hw.mono ?_; rintro e w4 ⟨rfl, m, hm⟩; subst w4; clear hw)
    | (go_at_call 5; refine (el_live _).mono ?_; rintro e w5 ⟨rfl, hm⟩; have br := boxed_more H0.out.2 (More.trans (More.drewN w3 m) hm); have cr := br.cell; have fr := br.frozen; have hc := (br.set (.bool true)).cell; have H5 := Hid.mk (More.trans (More.drewN w3 m) hm); clear hm))
  refine bodyPost_ret (v := .bool true) ?_ rfl ⟨rfl, ?_⟩
  · simp [results, Tryd.f3, go_sem, hc]
  · exact (More.trans H0.out.1 H5.out).setCell (p := ⟨w.heap.size + 1 + 1, 0, none⟩) (by simp; omega) _

theorem seqGoes (v : Value) (K : Nat) (g : Nat → Int) (stop : Int) (w : World) (h : ZRd w v K g) (hK : K ≤ 9223372036854775807) (hTab : TabIn w) :
    Calls Tryd.prog 3 #[v, .int .i64 stop] w fun e W' => e = .returned (.bool true) ∧ Below w.heap.size w W' := by
  by_cases hb : 80 < K
  · exact goes_big v K g stop w h hK hb
  by_cases h0 : wrg g K = 0
  · exact (callsIn_wide (n := 12)).1 (goes 12 (Nat.le_refl _) v K _ stop w (tell h h0) (wrg_climbs g K h0).2 (by omega) (wrg_tell g K h0) hTab)
  · exact goes_bad v K g stop w h (by omega) h0

end Go.Proofs.YtleighlmjlopiaaDoor
