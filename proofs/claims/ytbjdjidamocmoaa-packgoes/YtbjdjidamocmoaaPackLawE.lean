/-
  PackGoes, whatever the list.
-/
import Derived.Test.YtbjdjidamocmoaaPackLawD
namespace Go.Proofs.Ytbjdjidamocmoaa
open Go.RowKit Go.Shelf

theorem packGoes_big (s : Value) (K : Nat) (f : Nat → Nat) (stop : Int) (w : World) (h : Rd w s K f) (hK : K ≤ 9223372036854775807) (hbig : 60 < K) :
    Calls Try.prog 6 #[s, .int .i64 stop] w fun e W' => e = .returned (.bool true) ∧ Below w.heap.size w W' := by
  obtain ⟨ao, cap, rfl⟩ := h.shape
  clear h
  obtain ⟨w3, hw3⟩ : ∃ w3, ((w.alloc (Obj.cells #[Value.slice ao K cap] 22)).alloc (Obj.cells #[Value.int IntKind.i64 stop] 3)).alloc (Obj.cells #[Value.bool false] 4) = w3 := ⟨_, rfl⟩
  have hM3 : More w w3 := by
    rw [← hw3]
    exact (((Below.refl _ w).alloc (Nat.le_refl _) _).alloc (by simp) _).alloc (by simp; omega) _
  have b0 : Boxed w3 w.heap.size 22 (.slice ao K cap) := by rw [← hw3]; exact ((Boxed.new w _ _).alloc _).alloc _
  have b2 : Boxed w3 (w.heap.size + 1 + 1) 4 (.bool false) := by
    have := Boxed.new ((w.alloc (Obj.cells #[Value.slice ao K cap] 22)).alloc (Obj.cells #[Value.int IntKind.i64 stop] 3)) 4 (.bool false)
    rw [World.size_alloc, World.size_alloc] at this
    rw [← hw3]; exact this
  have c0 := b0.cell
  have HH : Hid _ := And.intro hM3 b2
  clear hM3 b2 b0
  go_enter Try.func6, Try.ntmps6
  go_wp2_with (go_at_call 7; refine (live _).mono ?_; rintro e w' ⟨rfl, hm⟩; have br := boxed_more HH.out.2 hm; have cr := br.cell; have fr := br.frozen; have hc := (br.set (.bool true)).cell)
  refine bodyPost_ret (v := .bool true) ?_ rfl ⟨rfl, ?_⟩
  · simp [results, Try.f6, go_sem, hc]
  · exact (More.trans HH.out.1 hm).setCell (p := ⟨w.heap.size + 1 + 1, 0, none⟩) (by simp; omega) _

theorem packGoes (s : Value) (K : Nat) (f : Nat → Nat) (stop : Int) (w : World) (h : Rd w s K f) (hf : ∀ j, j < K → f j < 18446744073709551616) (hK : K ≤ 9223372036854775807) :
    Calls Try.prog 6 #[s, .int .i64 stop] w fun e W' => e = .returned (.bool true) ∧ Below w.heap.size w W' := by
  by_cases hbig : 60 < K
  · exact packGoes_big s K f stop w h hK hbig
  · exact callsIn_wide.1 (law 4 K f s (Nat.le_refl _) stop w h hf (by omega))

end Go.Proofs.Ytbjdjidamocmoaa
