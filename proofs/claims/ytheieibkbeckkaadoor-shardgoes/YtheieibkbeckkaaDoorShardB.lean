/-
  shard: what the parts tell, by their kinds.
-/
import Derived.Test.YtheieibkbeckkaaDoorShardA
namespace Go.Proofs.YtheieibkbeckkaaDoor
open Go.RowKit

theorem run_kind (w : World) : Calls Tryd.prog 89 #[.agg #[]] w fun e w' => e = .returned (.int .i64 0) ∧ More w w' := by
  go_enter Tryd.func89, Tryd.ntmps89
  go_wp2
  go_ret
  exact ⟨rfl, more_alloc _ _⟩
theorem run_at (i : Int) (w : World) : Calls Tryd.prog 87 #[.agg #[], .int .i64 i] w fun e w' => e = .returned (.int .i64 i) ∧ More w w' := by
  go_enter Tryd.func87, Tryd.ntmps87
  go_wp2
  go_ret
  exact ⟨rfl, more_alloc _ _⟩
theorem run_below (i : Int) (w : World) : Calls Tryd.prog 88 #[.agg #[], .int .i64 i] w fun e w' => e = .returned (.int .i64 i) ∧ More w w' := by
  go_enter Tryd.func88, Tryd.ntmps88
  go_wp2
  go_ret
  exact ⟨rfl, more_alloc _ _⟩
theorem alike_kind (w : World) : Calls Tryd.prog 93 #[.agg #[]] w fun e w' => e = .returned (.int .i64 1) ∧ More w w' := by
  go_enter Tryd.func93, Tryd.ntmps93
  go_wp2
  go_ret
  exact ⟨rfl, more_alloc _ _⟩
theorem alike_at (i : Int) (w : World) : Calls Tryd.prog 91 #[.agg #[], .int .i64 i] w fun e w' => e = .returned (.int .i64 0) ∧ More w w' := by
  go_enter Tryd.func91, Tryd.ntmps91
  go_wp2
  go_ret
  exact ⟨rfl, more_alloc _ _⟩
theorem alike_below (i : Int) (w : World) : Calls Tryd.prog 92 #[.agg #[], .int .i64 i] w fun e w' => e = .returned (.int .i64 32) ∧ More w w' := by
  go_enter Tryd.func92, Tryd.ntmps92
  go_wp2
  go_ret
  exact ⟨rfl, more_alloc _ _⟩
theorem other_kind (s : Nat) (w : World) : Calls Tryd.prog 97 #[.agg #[.pointer (some ⟨s, 0, none⟩)]] w fun e w' => e = .returned (.int .i64 2) ∧ More w w' := by
  go_enter Tryd.func97, Tryd.ntmps97
  go_wp2
  go_ret
  exact ⟨rfl, more_alloc _ _⟩
theorem other_at (base s : Nat) (g : Nat → Nat) (m : Nat) (i : Int) (w : World) (h : SeqAt w base s (dif g) m) : Calls Tryd.prog 95 #[.agg #[.pointer (some ⟨s, 0, none⟩)], .int .i64 i] w fun e w' => e = .returned (.int .i64 (atZ (dif g) m i)) ∧ More w w' := by
  have ha := fun w' (hm : More w w') => el_at base s (dif g) m i w' (h.more hm)
  clear h
  go_enter Tryd.func95, Tryd.ntmps95
  go_wp2_with (go_at_call 18; refine (ha _ (more_alloc _ _)).mono ?_; rintro e w1 ⟨rfl, hm⟩; have H1 := Hid.mk hm; clear hm)
  go_ret
  exact ⟨rfl, More.trans (more_alloc _ _) H1.out⟩
theorem other_below (base s : Nat) (g : Nat → Nat) (m : Nat) (i : Int) (w : World) (h : SeqAt w base s (dif g) m) : Calls Tryd.prog 96 #[.agg #[.pointer (some ⟨s, 0, none⟩)], .int .i64 i] w fun e w' => e = .returned (.int .i64 (if belI (dif g) i m < m then (belI (dif g) i m : Nat) else 32)) ∧ More w w' := by
  have ha := fun w' (hm : More w w') => el_next base s i (dif g) m w' (h.more hm)
  have hle := belI_le (dif g) i m
  by_cases hlt : belI (dif g) i m < m
  · have hn : nextZ (dif g) m i = (belI (dif g) i m : Nat) := by unfold nextZ placeZ; rw [if_pos (by omega)]
    rw [if_pos hlt]
    rw [hn] at ha
    generalize belI (dif g) i m = r at *
    clear h hn
    go_enter Tryd.func96, Tryd.ntmps96
    go_wp2_with (go_at_call 27; refine (ha _ (more_alloc _ _)).mono ?_; rintro e w1 ⟨rfl, hm⟩; have H1 := Hid.mk hm; clear hm)
    go_ret
    exact ⟨rfl, More.trans (more_alloc _ _) H1.out⟩
  · have hn : nextZ (dif g) m i = -1 := by unfold nextZ placeZ; rw [if_neg (by omega)]
    rw [if_neg hlt]
    rw [hn] at ha
    clear h hn hlt hle
    go_enter Tryd.func96, Tryd.ntmps96
    go_wp2_with (go_at_call 27; refine (ha _ (more_alloc _ _)).mono ?_; rintro e w1 ⟨rfl, hm⟩; have H1 := Hid.mk hm; clear hm)
    go_ret
    exact ⟨rfl, More.trans (more_alloc _ _) H1.out⟩

/-- Which function a part's method is. -/
theorem run_kind_is (w : World) : (method 214 60 (.agg #[]) "locution/shard.kind").run Tryd.prog w = .ok (89, .agg #[]) w := by kernel_rfl
theorem run_at_is (w : World) : (method 214 60 (.agg #[]) "locution/shard.at").run Tryd.prog w = .ok (87, .agg #[]) w := by kernel_rfl
theorem run_below_is (w : World) : (method 214 60 (.agg #[]) "locution/shard.below").run Tryd.prog w = .ok (88, .agg #[]) w := by kernel_rfl
theorem alike_kind_is (w : World) : (method 214 61 (.agg #[]) "locution/shard.kind").run Tryd.prog w = .ok (93, .agg #[]) w := by kernel_rfl
theorem alike_at_is (w : World) : (method 214 61 (.agg #[]) "locution/shard.at").run Tryd.prog w = .ok (91, .agg #[]) w := by kernel_rfl
theorem alike_below_is (w : World) : (method 214 61 (.agg #[]) "locution/shard.below").run Tryd.prog w = .ok (92, .agg #[]) w := by kernel_rfl
theorem other_kind_is (s : Nat) (w : World) : (method 214 63 (.agg #[.pointer (some ⟨s, 0, none⟩)]) "locution/shard.kind").run Tryd.prog w = .ok (97, .agg #[.pointer (some ⟨s, 0, none⟩)]) w := by kernel_rfl
theorem other_at_is (s : Nat) (w : World) : (method 214 63 (.agg #[.pointer (some ⟨s, 0, none⟩)]) "locution/shard.at").run Tryd.prog w = .ok (95, .agg #[.pointer (some ⟨s, 0, none⟩)]) w := by kernel_rfl
theorem other_below_is (s : Nat) (w : World) : (method 214 63 (.agg #[.pointer (some ⟨s, 0, none⟩)]) "locution/shard.below").run Tryd.prog w = .ok (96, .agg #[.pointer (some ⟨s, 0, none⟩)]) w := by kernel_rfl
end Go.Proofs.YtheieibkbeckkaaDoor
