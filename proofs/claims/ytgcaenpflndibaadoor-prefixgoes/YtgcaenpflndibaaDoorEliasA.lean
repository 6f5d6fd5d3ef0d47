/-
  elias: the low width, the low bits of a number, the low part and the high part.
-/
import Derived.Test.YtgcaenpflndibaaDoorEliasMath
import Derived.Test.YtgcaenpflndibaaDoorPackFind
import Derived.Test.YtgcaenpflndibaaDoorSelTell
namespace Go.Proofs.YtgcaenpflndibaaDoor
open Go.RowKit

/-- A slice of K ints, whatever they are, as it is read. -/
def ZRd (w : World) (v : Value) (K : Nat) (g : Nat → Int) : Prop :=
  (K = 0 ∧ ∃ ao cap, v = .slice ao 0 cap) ∨ ∃ b o cap, v = .slice (some ⟨b, o, none⟩) K cap ∧ b < w.heap.size ∧ ∀ j, j < K → w.cell? ⟨b, o + j, none⟩ = some (.int .i64 (g j))
theorem ZRd.shape {w : World} {v : Value} {K : Nat} {g : Nat → Int} (h : ZRd w v K g) : ∃ ao cap, v = .slice ao K cap := by
  rcases h with ⟨rfl, ao, cap, rfl⟩ | ⟨b, o, cap, rfl, _⟩
  · exact ⟨_, _, rfl⟩
  · exact ⟨_, _, rfl⟩
theorem ZRd.more {w w' : World} {v : Value} {K : Nat} {g : Nat → Int} (h : ZRd w v K g) (k : More w w') : ZRd w' v K g := by
  rcases h with h | ⟨b, o, cap, rfl, hb, hc⟩
  · exact .inl h
  · exact .inr ⟨b, o, cap, rfl, Nat.lt_of_lt_of_le hb k.size, fun j hj => (k.cell (p := ⟨b, o + j, none⟩) hb).trans (hc j hj)⟩
theorem ZRd.cell {w w' : World} {ao : Option Addr} {K cap : Nat} {g : Nat → Int} (h : ZRd w (.slice ao K cap) K g) (k : Nat) (hk : k < K) : ∃ b o, ao = some ⟨b, o, none⟩ ∧ (More w w' → w'.cell? ⟨b, o + k, none⟩ = some (.int .i64 (g k))) := by
  rcases h with ⟨rfl, _⟩ | ⟨b, o, cap', h, hb, hc⟩
  · omega
  · simp at h
    exact ⟨b, o, h.1, fun m => (m.cell (p := ⟨b, o + k, none⟩) hb).trans (hc k hk)⟩
theorem ZRd.congr {w : World} {v : Value} {K : Nat} {g g' : Nat → Int} (h : ZRd w v K g) (he : ∀ j, j < K → g j = g' j) : ZRd w v K g' := by
  rcases h with h | ⟨b, o, cap, rfl, hb, hc⟩
  · exact .inl h
  · exact .inr ⟨b, o, cap, rfl, hb, fun j hj => by rw [hc j hj, he j hj]⟩

/-- The low width of any n numbers, the last one being u. -/
def lowZ (n u : Int) : Nat := if n < 1 ∨ u < n then 0 else lowN n.toNat u.toNat
theorem lowZ_nat (n u : Nat) : lowZ n u = lowN n u := by
  unfold lowZ
  by_cases h : (n : Int) < 1 ∨ (u : Int) < n
  · rw [if_pos h]; unfold lowN; rw [if_pos (by omega)]
  · rw [if_neg h]; rfl

theorem el_low (n u : Int) (hu : u ≤ 9223372036854775807) (w : World) : Calls Tryd.prog 20 #[.int .i64 n, .int .i64 u] w fun e w' => e = .returned (.int .i64 (lowZ n u : Nat)) ∧ w' = w := by
  by_cases h1 : n < 1
  · rw [show lowZ n u = 0 by unfold lowZ; rw [if_pos (.inl h1)]]
    go_enter Tryd.func20, Tryd.ntmps20
    go_wp2
    go_ret
    exact ⟨rfl, rfl⟩
  by_cases h2 : u < n
  · rw [show lowZ n u = 0 by unfold lowZ; rw [if_pos (.inr h2)]]
    go_enter Tryd.func20, Tryd.ntmps20
    go_wp2
    go_ret
    exact ⟨rfl, rfl⟩
  obtain ⟨N, rfl⟩ := Int.eq_ofNat_of_zero_le (show 0 ≤ n by omega)
  obtain ⟨U, rfl⟩ := Int.eq_ofNat_of_zero_le (show 0 ≤ u by omega)
  obtain ⟨q, hq⟩ : ∃ q, U / N = q := ⟨_, rfl⟩
  have hqU : q ≤ U := by rw [← hq]; exact Nat.div_le_self _ _
  have hq0 : q ≠ 0 := by
    have := (Nat.le_div_iff_mul_le (show 0 < N by omega)).2 (show 1 * N ≤ U by omega)
    omega
  have e1 : (U : Int) / (N : Int) = q := by rw [← hq]; exact (Int.natCast_ediv U N).symm
  have e2 : (U : Int).tdiv N = q := by rw [Int.tdiv_eq_ediv_of_nonneg (by omega)]; exact e1
  have hb := bitLen_bounds q (by omega) hq0
  have hb64 := bitLen_le64 q (by omega)
  have hl : lowZ N U = Lib.bitLen q - 1 := by rw [lowZ_nat]; unfold lowN; rw [if_neg (by omega), hq]
  rw [hl]
  have hwd := fun w => lane_Width q (by omega) w
  obtain ⟨B, hB⟩ : ∃ B, Lib.bitLen q = B + 1 := ⟨Lib.bitLen q - 1, by omega⟩
  rw [hB] at hwd hb64 ⊢
  have hn0 : ¬ (N : Int) = 0 := by omega
  clear hb hB hl hq hq0
  go_enter Tryd.func20, Tryd.ntmps20
  go_wp2_with (go_at_call 31; refine (hwd _).mono ?_; rintro e w' ⟨rfl, hw⟩; subst w')
  go_ret
  exact ⟨by simp, rfl⟩

theorem el_lowBits (v d : Nat) (hv : v ≤ 1099511627777) (hd : d ≤ 64) (w : World) : Calls Tryd.prog 32 #[.int .i64 v, .int .i64 d] w fun e w' => e = .returned (.int .u64 (v % 2 ^ d : Nat)) ∧ ∃ m, w' = w.drewN m := by
  have hc := fun w => lane_Cut v (by omega) 0 d w
  rw [show sh v 0 = v by unfold sh; simp, show min 64 (d : Int).toNat = d by omega] at hc
  have hx : IntKind.u64.wrap (v : Int) = v := by rw [IntKind.wrap_u64]; omega
  generalize v % 2 ^ d = X at *
  go_enter Tryd.func32, Tryd.ntmps32
  go_wp2_with (go_at_call 51; refine (hc _).mono ?_; rintro e w' ⟨rfl, m, hw⟩; subst w')
  go_ret
  exact ⟨rfl, _, rfl⟩

end Go.Proofs.YtgcaenpflndibaaDoor
