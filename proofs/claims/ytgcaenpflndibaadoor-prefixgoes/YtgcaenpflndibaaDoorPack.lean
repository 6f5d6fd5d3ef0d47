/-
  Packs in memory, and what packrow's functions do with them.
-/
import Derived.Test.YtgcaenpflndibaaDoorPackMath
import Derived.Deep.RegionWith
namespace Go.Proofs.YtgcaenpflndibaaDoor
open Go.RowKit

/-- A pack of n numbers of d bits, the row V, lies at block p, from block 'base' on. -/
structure PackAt (w : World) (base p V d n : Nat) : Prop where
  lo : base ≤ p
  wid : d ≤ 64
  num : n ≤ 67108864
  mem : ∃ b, w.heap[p]? = some (.cells #[.pointer (some ⟨b, 0, none⟩), .int .i64 d, .int .i64 n] 77 (0, 0)) ∧ RowAt w base b V (d * n)

/-- A pack as it is read. -/
structure PackRd (w : World) (p V d n : Nat) : Prop where
  wid : d ≤ 64
  num : n ≤ 67108864
  c1 : w.cell? ⟨p, 1, none⟩ = some (.int .i64 d)
  c2 : w.cell? ⟨p, 2, none⟩ = some (.int .i64 n)
  row : ∃ b, w.cell? ⟨p, 0, none⟩ = some (.pointer (some ⟨b, 0, none⟩)) ∧ RowRd w b V (d * n)

theorem PackAt.rd {w : World} {base p V d n : Nat} (h : PackAt w base p V d n) : PackRd w p V d n := by
  obtain ⟨b, hp, hr⟩ := h.mem
  refine ⟨h.wid, h.num, ?_, ?_, b, ?_, hr.rd⟩ <;> simp [World.cell?, hp]
theorem PackRd.drewN {w : World} {p V d n : Nat} (h : PackRd w p V d n) (m : Nat) : PackRd (w.drewN m) p V d n := by
  obtain ⟨b, h0, hr⟩ := h.row
  exact ⟨h.wid, h.num, h.c1, h.c2, b, h0, hr.drewN m⟩
theorem PackAt.more {w w' : World} {base p V d n : Nat} (h : PackAt w base p V d n) (k : More w w') : PackAt w' base p V d n := by
  obtain ⟨b, hp, hr⟩ := h.mem
  exact ⟨h.lo, h.wid, h.num, b, by rw [k.block p (lt_of_block hp)]; exact hp, More.row hr k⟩
theorem PackAt.fit {w : World} {base p V d n : Nat} (h : PackAt w base p V d n) : V < 2 ^ (d * n) := by
  obtain ⟨b, hp, hr⟩ := h.mem
  exact hr.fit

theorem may_be (d : Int) (w : World) : Calls Tryd.prog 52 #[.int .i64 d] w fun e w' => e = .returned (.bool (decide (0 ≤ d ∧ d ≤ 64))) ∧ w' = w := by
  by_cases h0 : 0 ≤ d
  · by_cases h1 : d ≤ 64
    · rw [show decide (0 ≤ d ∧ d ≤ 64) = true by simp [h0, h1]]
      go_enter Tryd.func52, Tryd.ntmps52
      go_wp2
      go_ret
      exact ⟨rfl, rfl⟩
    · rw [show decide (0 ≤ d ∧ d ≤ 64) = false by simp [h1]]
      go_enter Tryd.func52, Tryd.ntmps52
      go_wp2
      go_ret
      exact ⟨rfl, rfl⟩
  · rw [show decide (0 ≤ d ∧ d ≤ 64) = false by simp [h0]]
    go_enter Tryd.func52, Tryd.ntmps52
    go_wp2
    go_ret
    exact ⟨rfl, rfl⟩

theorem pack_len (p V d n : Nat) (w : World) (h : PackRd w p V d n) : Calls Tryd.prog 45 #[.pointer (some ⟨p, 0, none⟩)] w fun e w' => e = .returned (.int .i64 n) ∧ w' = w := by
  have h2 := h.c2
  clear h
  go_enter Tryd.func45, Tryd.ntmps45
  go_wp2
  go_ret
  exact ⟨rfl, rfl⟩
theorem pnone_len (w : World) : Calls Tryd.prog 45 #[.pointer none] w fun e w' => e = .returned (.int .i64 0) ∧ w' = w := by
  go_enter Tryd.func45, Tryd.ntmps45
  go_wp2
  go_ret
  exact ⟨rfl, rfl⟩
theorem pack_width (p V d n : Nat) (w : World) (h : PackRd w p V d n) : Calls Tryd.prog 43 #[.pointer (some ⟨p, 0, none⟩)] w fun e w' => e = .returned (.int .i64 d) ∧ w' = w := by
  have h2 := h.c1
  clear h
  go_enter Tryd.func43, Tryd.ntmps43
  go_wp2
  go_ret
  exact ⟨rfl, rfl⟩
theorem none_width (w : World) : Calls Tryd.prog 43 #[.pointer none] w fun e w' => e = .returned (.int .i64 0) ∧ w' = w := by
  go_enter Tryd.func43, Tryd.ntmps43
  go_wp2
  go_ret
  exact ⟨rfl, rfl⟩
theorem none_at (i : Int) (w : World) : Calls Tryd.prog 44 #[.pointer none, .int .i64 i] w fun e w' => e = .returned (.int .u64 0) ∧ w' = w := by
  rcases (show i < 0 ∨ (¬ i < 0 ∧ 0 ≤ i) by omega) with h | ⟨h, h2⟩
  all_goals
    go_enter Tryd.func44, Tryd.ntmps44
    go_wp2_with (go_at_call 45; refine (pnone_len _).mono ?_; rintro e w' ⟨rfl, rfl⟩)
    go_ret
    exact ⟨rfl, rfl⟩

theorem pack_at (p V d n : Nat) (i : Int) (w : World) (h : PackRd w p V d n) : Calls Tryd.prog 44 #[.pointer (some ⟨p, 0, none⟩), .int .i64 i] w fun e w' => e = .returned (.int .u64 (atV V d n i : Nat)) ∧ ∃ k, w' = w.drewN k := by
  have hl := fun w (h : PackRd w p V d n) => pack_len p V d n w h
  by_cases h0 : i < 0
  · rw [atV_out V d n i (by omega)]
    clear h
    go_enter Tryd.func44, Tryd.ntmps44
    go_wp2
    go_ret
    exact ⟨rfl, 0, rfl⟩
  obtain ⟨i, rfl⟩ := Int.eq_ofNat_of_zero_le (show 0 ≤ i by omega)
  have hll := hl w h
  clear hl
  by_cases h1 : i < n
  · obtain ⟨b, c0, hr⟩ := h.row
    have c1 := h.c1
    have hn := h.num
    have hd := h.wid
    obtain ⟨M, hM⟩ : ∃ M, d * i = M := ⟨_, rfl⟩
    have hMb : M ≤ 4294967296 := by rw [← hM]; exact Nat.le_trans (Nat.mul_le_mul hd (show i ≤ 67108864 by omega)) (by decide)
    have hMi : (i : Int) * (d : Int) = (M : Int) := by rw [← hM, Int.natCast_mul, Int.mul_comm]
    have hMw : IntKind.i64.wrap (M : Int) = (M : Int) := by rw [IntKind.wrap_i64]; omega
    have hat : atV V d n i = cutV V (M : Int) (min 64 (d : Int).toNat) := by
      unfold atV cutV
      rw [if_pos ⟨by omega, by omega⟩, if_neg (by omega), Int.toNat_natCast, Int.toNat_natCast, Int.toNat_natCast, hM, Nat.min_eq_right hd]
    rw [hat]
    have hc := fun (m : Nat) => row_cut b V (d * n) (M : Int) (d : Int) (w.drewN m) (hr.drewN m) (by omega) (by omega)
    generalize cutV V (M : Int) (min 64 (d : Int).toNat) = X at hc ⊢
    clear h hr hM hat h0
    go_enter Tryd.func44, Tryd.ntmps44
    go_wp2_with (go_at_call 45; refine hll.mono ?_; rintro e w' ⟨rfl, hw⟩; subst hw)
    go_quiet ((go_at_call 59; exact Calls.quiet_of (hc _)))
    go_wp2
    go_ret
    exact ⟨rfl, _, rfl⟩
  · rw [atV_out V d n i (by omega)]
    clear h h0
    go_enter Tryd.func44, Tryd.ntmps44
    go_wp2_with (go_at_call 45; refine hll.mono ?_; rintro e w' ⟨rfl, hw⟩; subst hw)
    go_ret
    exact ⟨rfl, 0, rfl⟩

end Go.Proofs.YtgcaenpflndibaaDoor
