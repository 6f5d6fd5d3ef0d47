/-
  rankdir's Len, Rank, Zeros, Marks; of nil too.
-/
import Derived.Test.YtgcaenpflndibaaDoorDir
namespace Go.Proofs.YtgcaenpflndibaaDoor
open Go.RowKit

/-- A slice of K ints is read. -/
def IRd (w : World) (v : Value) (K : Nat) (f : Nat → Nat) : Prop :=
  (K = 0 ∧ ∃ ao cap, v = .slice ao 0 cap) ∨ ∃ g cap, v = .slice (some ⟨g, 0, none⟩) K cap ∧ g < w.heap.size ∧ ∀ j, j < K → w.cell? ⟨g, j, none⟩ = some (.int .i64 (f j : Nat))
theorem ird_of_own {w : World} {base : Nat} {v : Value} {K : Nat} {f : Nat → Nat} (h : w.ownsRow base 3 1 v K (ints f K)) : IRd w v K f := by
  rcases h.2 with ⟨rfl, hn⟩ | ⟨g, cap, cur, rfl, _, hg, _⟩
  · exact .inl ⟨hn, _, _, rfl⟩
  · exact .inr ⟨g, cap, rfl, lt_of_block hg, fun j hj => by rw [h.cellAt j (by omega), ints_get _ _ _ hj]⟩
theorem IRd.shape {w : World} {v : Value} {K : Nat} {f : Nat → Nat} (h : IRd w v K f) : ∃ ao cap, v = .slice ao K cap := by
  rcases h with ⟨rfl, ao, cap, rfl⟩ | ⟨g, cap, rfl, _⟩
  · exact ⟨_, _, rfl⟩
  · exact ⟨_, _, rfl⟩
theorem IRd.more {w w' : World} {v : Value} {K : Nat} {f : Nat → Nat} (h : IRd w v K f) (k : More w w') : IRd w' v K f := by
  rcases h with h | ⟨g, cap, rfl, hg, hc⟩
  · exact .inl h
  · exact .inr ⟨g, cap, rfl, Nat.lt_of_lt_of_le hg k.size, fun j hj => (k.cell (p := ⟨g, j, none⟩) hg).trans (hc j hj)⟩

/-- A directory as it is read. -/
structure DirRd (w : World) (d V n : Nat) : Prop where
  fit : V < 2 ^ n
  len : n ≤ 1099511627776
  c2 : w.cell? ⟨d, 2, none⟩ = some (.int .i64 n)
  c0 : ∃ v, w.cell? ⟨d, 0, none⟩ = some v ∧ Rd w v (nw n) (wd V)
  c1 : ∃ m, w.cell? ⟨d, 1, none⟩ = some m ∧ IRd w m (nm n + 1) (mk V n)

theorem DirAt.rd {w : World} {base d V n : Nat} (h : DirAt w base d V n) : DirRd w d V n := by
  obtain ⟨v, _, m, hb, hv, hm⟩ := h.mem
  obtain ⟨c0, c1, c2, _⟩ := cells3 hb
  exact ⟨h.fit, h.len, c2, ⟨v, c0, rd_of_own hv⟩, ⟨m, c1, ird_of_own hm⟩⟩
theorem DirRd.more {w w' : World} {d V n : Nat} (h : DirRd w d V n) (k : More w w') : DirRd w' d V n := by
  obtain ⟨v, c0, hv⟩ := h.c0
  obtain ⟨m, c1, hm⟩ := h.c1
  have hd := World.block_lt_of_cell? w _ h.c2
  exact ⟨h.fit, h.len, (k.cell hd).trans h.c2, ⟨v, (k.cell (p := ⟨d, 0, none⟩) hd).trans c0, hv.more k⟩, ⟨m, (k.cell (p := ⟨d, 1, none⟩) hd).trans c1, hm.more k⟩⟩

/-- The number from 0 to n that is nearest to i. -/
def near (i : Int) (n : Nat) : Nat := min i.toNat n
theorem near_eq (i : Int) (n : Nat) : min (max i 0) (n : Int) = (near i n : Nat) := by unfold near; omega
theorem near_le (i : Int) (n : Nat) : near i n ≤ n := Nat.min_le_right _ _

theorem Rd.at {w : World} {ao : Option Addr} {K cap : Nat} {f : Nat → Nat} (h : Rd w (.slice ao K cap) K f) (hK : 0 < K) : ∃ g o, ao = some ⟨g, o, none⟩ ∧ ∀ k, k < K → w.cell? ⟨g, o + k, none⟩ = some (.int .u64 (f k : Nat)) := by
  rcases h with ⟨rfl, _⟩ | ⟨g, o, cap', h, hg, hc⟩
  · omega
  · simp at h
    exact ⟨g, o, h.1, hc⟩
theorem IRd.at {w : World} {ao : Option Addr} {K cap : Nat} {f : Nat → Nat} (h : IRd w (.slice ao K cap) K f) (hK : 0 < K) : ∃ g, ao = some ⟨g, 0, none⟩ ∧ ∀ k, k < K → w.cell? ⟨g, k, none⟩ = some (.int .i64 (f k : Nat)) := by
  rcases h with ⟨rfl, _⟩ | ⟨g, cap', h, hg, hc⟩
  · omega
  · simp at h
    exact ⟨g, h.1, hc⟩

theorem rk_low (V q r : Nat) (hr : r ≤ 64) : rk V (64 * q + r) = rk V (64 * q) + rk (wd V q) r := by
  rw [rk_add]
  unfold wd
  rw [rk_mod _ _ _ hr]

end Go.Proofs.YtgcaenpflndibaaDoor
