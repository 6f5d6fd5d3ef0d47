/-
  shard: what the parts tell, by their kinds.
-/
import Derived.Test.YtheieibkbeckkaaShardA
namespace Go.Proofs.Ytheieibkbeckkaa
open Go.RowKit

theorem run_kind (w : World) : Calls Try.prog 92 #[.agg #[]] w fun e w' => e = .returned (.int .i64 0) ∧ More w w' := by
  go_enter Try.func92, Try.ntmps92
  go_wp2
  go_ret
  exact ⟨rfl, more_alloc _ _⟩
theorem run_at (i : Int) (w : World) : Calls Try.prog 90 #[.agg #[], .int .i64 i] w fun e w' => e = .returned (.int .i64 i) ∧ More w w' := by
  go_enter Try.func90, Try.ntmps90
  go_wp2
  go_ret
  exact ⟨rfl, more_alloc _ _⟩
theorem run_below (i : Int) (w : World) : Calls Try.prog 91 #[.agg #[], .int .i64 i] w fun e w' => e = .returned (.int .i64 i) ∧ More w w' := by
  go_enter Try.func91, Try.ntmps91
  go_wp2
  go_ret
  exact ⟨rfl, more_alloc _ _⟩
theorem run_size (w : World) : Calls Try.prog 93 #[.agg #[]] w fun e w' => e = .returned (.int .i64 0) ∧ More w w' := by
  go_enter Try.func93, Try.ntmps93
  go_wp2
  go_ret
  exact ⟨rfl, more_alloc _ _⟩
theorem alike_kind (w : World) : Calls Try.prog 96 #[.agg #[]] w fun e w' => e = .returned (.int .i64 1) ∧ More w w' := by
  go_enter Try.func96, Try.ntmps96
  go_wp2
  go_ret
  exact ⟨rfl, more_alloc _ _⟩
theorem alike_at (i : Int) (w : World) : Calls Try.prog 94 #[.agg #[], .int .i64 i] w fun e w' => e = .returned (.int .i64 0) ∧ More w w' := by
  go_enter Try.func94, Try.ntmps94
  go_wp2
  go_ret
  exact ⟨rfl, more_alloc _ _⟩
theorem alike_below (i : Int) (w : World) : Calls Try.prog 95 #[.agg #[], .int .i64 i] w fun e w' => e = .returned (.int .i64 32) ∧ More w w' := by
  go_enter Try.func95, Try.ntmps95
  go_wp2
  go_ret
  exact ⟨rfl, more_alloc _ _⟩
theorem alike_size (w : World) : Calls Try.prog 97 #[.agg #[]] w fun e w' => e = .returned (.int .i64 0) ∧ More w w' := by
  go_enter Try.func97, Try.ntmps97
  go_wp2
  go_ret
  exact ⟨rfl, more_alloc _ _⟩
theorem other_kind (s : Nat) (w : World) : Calls Try.prog 100 #[.agg #[.pointer (some ⟨s, 0, none⟩)]] w fun e w' => e = .returned (.int .i64 2) ∧ More w w' := by
  go_enter Try.func100, Try.ntmps100
  go_wp2
  go_ret
  exact ⟨rfl, more_alloc _ _⟩
theorem other_at (base s : Nat) (g : Nat → Nat) (m : Nat) (i : Int) (w : World) (h : SeqAt w base s (dif g) m) : Calls Try.prog 98 #[.agg #[.pointer (some ⟨s, 0, none⟩)], .int .i64 i] w fun e w' => e = .returned (.int .i64 (atZ (dif g) m i)) ∧ More w w' := by
  have ha := fun w' (hm : More w w') => el_at base s (dif g) m i w' (h.more hm)
  clear h
  go_enter Try.func98, Try.ntmps98
  go_wp2_with (go_at_call 20; refine (ha _ (more_alloc _ _)).mono ?_; rintro e w1 ⟨rfl, hm⟩; have H1 := Hid.mk hm; clear hm)
  go_ret
  exact ⟨rfl, More.trans (more_alloc _ _) H1.out⟩
theorem other_size (base s : Nat) (g : Nat → Nat) (m : Nat) (w : World) (h : SeqAt w base s (dif g) m) : Calls Try.prog 101 #[.agg #[.pointer (some ⟨s, 0, none⟩)]] w fun e w' => e = .returned (.int .i64 (sizeN (dif g) (wdt (dif g) m) m : Nat)) ∧ More w w' := by
  have ha := fun w' (hm : More w w') => el_size base s (dif g) m w' (h.more hm)
  clear h
  go_enter Try.func101, Try.ntmps101
  go_wp2_with (go_at_call 21; refine (ha _ (more_alloc _ _)).mono ?_; rintro e w1 ⟨rfl, hm⟩; have H1 := Hid.mk hm; clear hm)
  go_ret
  exact ⟨rfl, More.trans (more_alloc _ _) H1.out⟩
theorem other_below (base s : Nat) (g : Nat → Nat) (m : Nat) (i : Int) (w : World) (h : SeqAt w base s (dif g) m) : Calls Try.prog 99 #[.agg #[.pointer (some ⟨s, 0, none⟩)], .int .i64 i] w fun e w' => e = .returned (.int .i64 (if belI (dif g) i m < m then (belI (dif g) i m : Nat) else 32)) ∧ More w w' := by
  have ha := fun w' (hm : More w w') => el_next base s i (dif g) m w' (h.more hm)
  have hle := belI_le (dif g) i m
  by_cases hlt : belI (dif g) i m < m
  · have hn : nextZ (dif g) m i = (belI (dif g) i m : Nat) := by unfold nextZ placeZ; rw [if_pos (by omega)]
    rw [if_pos hlt]
    rw [hn] at ha
    generalize belI (dif g) i m = r at *
    clear h hn
    go_enter Try.func99, Try.ntmps99
    go_wp2_with (go_at_call 36; refine (ha _ (more_alloc _ _)).mono ?_; rintro e w1 ⟨rfl, hm⟩; have H1 := Hid.mk hm; clear hm)
    go_ret
    exact ⟨rfl, More.trans (more_alloc _ _) H1.out⟩
  · have hn : nextZ (dif g) m i = -1 := by unfold nextZ placeZ; rw [if_neg (by omega)]
    rw [if_neg hlt]
    rw [hn] at ha
    clear h hn hlt hle
    go_enter Try.func99, Try.ntmps99
    go_wp2_with (go_at_call 36; refine (ha _ (more_alloc _ _)).mono ?_; rintro e w1 ⟨rfl, hm⟩; have H1 := Hid.mk hm; clear hm)
    go_ret
    exact ⟨rfl, More.trans (more_alloc _ _) H1.out⟩

/-- Which function a part's method is. -/
theorem run_kind_is (w : World) : (method 210 59 (.agg #[]) "locution/shard.kind").run Try.prog w = .ok (92, .agg #[]) w := by kernel_rfl
theorem run_at_is (w : World) : (method 210 59 (.agg #[]) "locution/shard.at").run Try.prog w = .ok (90, .agg #[]) w := by kernel_rfl
theorem run_below_is (w : World) : (method 210 59 (.agg #[]) "locution/shard.below").run Try.prog w = .ok (91, .agg #[]) w := by kernel_rfl
theorem run_size_is (w : World) : (method 210 59 (.agg #[]) "locution/shard.size").run Try.prog w = .ok (93, .agg #[]) w := by kernel_rfl
theorem alike_kind_is (w : World) : (method 210 60 (.agg #[]) "locution/shard.kind").run Try.prog w = .ok (96, .agg #[]) w := by kernel_rfl
theorem alike_at_is (w : World) : (method 210 60 (.agg #[]) "locution/shard.at").run Try.prog w = .ok (94, .agg #[]) w := by kernel_rfl
theorem alike_below_is (w : World) : (method 210 60 (.agg #[]) "locution/shard.below").run Try.prog w = .ok (95, .agg #[]) w := by kernel_rfl
theorem alike_size_is (w : World) : (method 210 60 (.agg #[]) "locution/shard.size").run Try.prog w = .ok (97, .agg #[]) w := by kernel_rfl
theorem other_kind_is (s : Nat) (w : World) : (method 210 62 (.agg #[.pointer (some ⟨s, 0, none⟩)]) "locution/shard.kind").run Try.prog w = .ok (100, .agg #[.pointer (some ⟨s, 0, none⟩)]) w := by kernel_rfl
theorem other_at_is (s : Nat) (w : World) : (method 210 62 (.agg #[.pointer (some ⟨s, 0, none⟩)]) "locution/shard.at").run Try.prog w = .ok (98, .agg #[.pointer (some ⟨s, 0, none⟩)]) w := by kernel_rfl
theorem other_below_is (s : Nat) (w : World) : (method 210 62 (.agg #[.pointer (some ⟨s, 0, none⟩)]) "locution/shard.below").run Try.prog w = .ok (99, .agg #[.pointer (some ⟨s, 0, none⟩)]) w := by kernel_rfl
theorem other_size_is (s : Nat) (w : World) : (method 210 62 (.agg #[.pointer (some ⟨s, 0, none⟩)]) "locution/shard.size").run Try.prog w = .ok (101, .agg #[.pointer (some ⟨s, 0, none⟩)]) w := by kernel_rfl

end Go.Proofs.Ytheieibkbeckkaa
