/-
  The document's Line; vocab's IDs.
-/
import Derived.Test.YtbpegpgbdemomaaVoH
import Derived.Test.YtbpegpgbdemomaaVoF
namespace Go.Proofs.Ytbpegpgbdemomaa
open Go.RowKit

theorem jn_congr {f g : Nat → List UInt8} {k : Nat} (h : ∀ j, j < k → f j = g j) : jn f k = jn g k := by
  rw [jn_join, jn_join]
  congr 1
  exact List.map_congr_left fun j hj => h j (List.mem_range.1 hj)
/-- The words of the first r numbers. -/
def lnL (ts : List (List UInt8)) (g : Nat → Int) (r : Nat) : List (List UInt8) := (List.range r).map fun j => lnI ts (g j)
theorem lnL_len (ts : List (List UInt8)) (g : Nat → Int) (r : Nat) : (lnL ts g r).length = r := by simp [lnL]
theorem lnL_succ (ts : List (List UInt8)) (g : Nat → Int) (r : Nat) : lnL ts g (r + 1) = lnL ts g r ++ [lnI ts (g r)] := by simp [lnL, List.range_succ]
theorem lnL_get (ts : List (List UInt8)) (g : Nat → Int) {r j : Nat} (h : j < r) : (lnL ts g r).getD j [] = lnI ts (g j) := by simp [lnL, List.getD, h]
theorem lnL_jn (ts : List (List UInt8)) (g : Nat → Int) (r : Nat) : jn (fun j => (lnL ts g r).getD j []) (lnL ts g r).length = jn (fun j => lnI ts (g j)) r := by
  rw [lnL_len]
  exact jn_congr fun j hj => lnL_get ts g hj

set_option maxRecDepth 1000000 in
set_option maxHeartbeats 4000000 in
theorem rf_line (v u : Value) (ts : List (List UInt8)) (K : Nat) (g : Nat → Int) (w : World) (ha : ARd w v ts) (hb : ZRd w u K g) (hK : K ≤ 60) (hx : ∀ i, i < ts.length → (ts.getD i []).length ≤ 255) :
    Calls Try.prog 30 #[v, u] w fun e w' => e = .returned (.string (bs (jn (fun j => lnI ts (g j)) K))) ∧ More w w' := by
  obtain ⟨i0, hi, hz0, hz1, hz2⟩ := info_parts Try.infoStr
  have HA := Hid.mk (And.intro ha hb)
  obtain ⟨bo, cb, rfl⟩ := hb.shape
  obtain ⟨ao, ca, rfl⟩ := ha.shape
  obtain ⟨n, hnn⟩ : ∃ n, ts.length = n := ⟨_, rfl⟩
  have HL := Hid.mk (And.intro (lnL_succ ts g) (And.intro (lnL_len ts g) (And.intro (lnL_jn ts g) (And.intro (fun i => lnI_len hx i) (fun r j (h : j < r) => lnL_get ts g h)))))
  have hL0 : lnL ts g 0 = [] := rfl
  have HI := Hid.mk (And.intro (fun (i : Nat) (h : i < ts.length) => (show lnI ts (i : Int) = ts.getD i [] by unfold lnI; rw [if_pos (by omega)]; simp)) (And.intro (fun (i : Int) (h : ¬ (0 ≤ i ∧ i < ts.length)) => (show lnI ts i = unkW from if_neg h)) hnn))
  have HE := Hid.mk hnn
  rw [hnn] at HA HI ⊢
  generalize hJ : jn (fun j => lnI ts (g j)) K = J
  have HJ := Hid.mk hJ
  clear ha hb hx hJ hnn
  go_enter Try.func30, Try.ntmps30
  go_wp2
  go_loopw [5, 6] (fun x k wr => ∃ r : Nat, r ≤ K ∧ k = .int .i64 r ∧ Grow w x (lnL ts g r) wr) (fun _ k _ => K - (intOf k).toNat)
  case atStart => exact ⟨0, by omega, rfl, by rw [hL0]; exact Grow.nil w⟩
  case round =>
    obtain ⟨r, hr, rfl, hG⟩ := hrel
    have hgl := HL.out.2.1 r
    by_cases hlt : r < K
    · obtain ⟨gb, ob, rfl, cB⟩ : ∃ gb ob, bo = some ⟨gb, ob, none⟩ ∧ wr.cell? ⟨gb, ob + r, none⟩ = some (.int .i64 (g r)) := by
        rcases HA.out.2 with ⟨h, _⟩ | ⟨gb, ob, cap, h1, _, h2⟩
        · omega
        · have h3 := h2 r hlt
          exact ⟨gb, ob, (Value.slice.inj h1).1, (hG.more.cell (World.block_lt_of_cell? _ _ h3)).trans h3⟩
      have HS := Hid.mk (HL.out.1 r)
      have hsh := hG.shape
      rw [hgl] at hsh
      obtain ⟨xo, xc, rfl⟩ := hsh
      have HG := Hid.mk (And.intro hG hgl)
      obtain ⟨X, hX⟩ : ∃ X, g r = X := ⟨_, rfl⟩
      rw [hX] at cB HS
      clear hG hX hgl hL0
      by_cases h0 : 0 ≤ X ∧ X < n
      · obtain ⟨q, rfl⟩ := Int.eq_ofNat_of_zero_le h0.1
        have hq : q < n := by omega
        obtain ⟨ga, oa, rfl, cA⟩ : ∃ ga oa, ao = some ⟨ga, oa, none⟩ ∧ wr.cell? ⟨ga, oa + q, none⟩ = some (.string (bs (ts.getD q []))) := by
          rcases HA.out.1 with ⟨h, _⟩ | ⟨ga, oa, cap, h1, h2⟩
          · have h3 := HE.out; rw [h] at h3; simp at h3; omega
          · have h3 := h2 q (by rw [HE.out]; exact hq)
            exact ⟨ga, oa, (Value.slice.inj h1).1, (HG.out.1.more.cell (World.block_lt_of_cell? _ _ h3)).trans h3⟩
        rw [HI.out.1 q hq] at HS
        have h1 : (0 : Int) ≤ (q : Int) := by omega
        have h2 : (q : Int) < (n : Int) := by omega
        generalize ts.getD q [] = x at cA HS
        go_wp2_with (at_builtin; refine wpList_append_own_at _ rfl (.tmp 27) (.tmp 35) 22 rfl w.heap.size 9 i0 (.string ⟨#[]⟩) 1 16 Try.underlying22 hi hz0 hz1 hz2 rfl (by decide) (.slice xo r xc) r _ rfl (by have h := HG.out.1.row; rw [HG.out.2] at h; exact h.alloc _) ⟨wr.heap.size, 0, none⟩ 1 1 [.string (bs x)] rfl rfl (one_cell _ _ _) (one_str _) ?c3 ?c4 ?c5 ?_)
        case c3 => unfold maxLen; omega
        case c4 => omega
        case c5 => have := HG.out.1.more.size; simp; omega
        intro v' w4 hown4 hgrow _ _
        have HN := Hid.mk (show Grow w v' (lnL ts g (r + 1)) w4 by rw [HS.out]; exact HG.out.1.app (more_alloc _ _) (by rw [HG.out.2]; exact hown4) hgrow)
        obtain ⟨ao4, cap4, rfl⟩ := wshape_of hown4
        clear hown4 hgrow
        go_wp2
        go_roundw
        case rel => exact ⟨r + 1, by omega, by go_num, HN.out⟩
        case measure => simp [intOf]; omega
      · rw [HI.out.2.1 X h0] at HS
        by_cases h1 : 0 ≤ X
        · have h2 : ¬ X < n := fun h => h0 ⟨h1, h⟩
          clear h0
          go_wp2_with (at_builtin; refine wpList_append_own_at _ rfl (.tmp 37) (.tmp 38) 22 rfl w.heap.size 9 i0 (.string ⟨#[]⟩) 1 16 Try.underlying22 hi hz0 hz1 hz2 rfl (by decide) (.slice xo r xc) r _ rfl (by have h := HG.out.1.row; rw [HG.out.2] at h; exact h.alloc _) ⟨wr.heap.size, 0, none⟩ 1 1 [.string (bs unkW)] rfl rfl (one_cell _ _ _) (one_str _) ?c3 ?c4 ?c5 ?_)
          case c3 => unfold maxLen; omega
          case c4 => omega
          case c5 => have := HG.out.1.more.size; simp; omega
          intro v' w4 hown4 hgrow _ _
          have HN := Hid.mk (show Grow w v' (lnL ts g (r + 1)) w4 by rw [HS.out]; exact HG.out.1.app (more_alloc _ _) (by rw [HG.out.2]; exact hown4) hgrow)
          obtain ⟨ao4, cap4, rfl⟩ := wshape_of hown4
          clear hown4 hgrow
          go_wp2
          go_roundw
          case rel => exact ⟨r + 1, by omega, by go_num, HN.out⟩
          case measure => simp [intOf]; omega
        · clear h0
          go_wp2_with (at_builtin; refine wpList_append_own_at _ rfl (.tmp 37) (.tmp 38) 22 rfl w.heap.size 9 i0 (.string ⟨#[]⟩) 1 16 Try.underlying22 hi hz0 hz1 hz2 rfl (by decide) (.slice xo r xc) r _ rfl (by have h := HG.out.1.row; rw [HG.out.2] at h; exact h.alloc _) ⟨wr.heap.size, 0, none⟩ 1 1 [.string (bs unkW)] rfl rfl (one_cell _ _ _) (one_str _) ?c3 ?c4 ?c5 ?_)
          case c3 => unfold maxLen; omega
          case c4 => omega
          case c5 => have := HG.out.1.more.size; simp; omega
          intro v' w4 hown4 hgrow _ _
          have HN := Hid.mk (show Grow w v' (lnL ts g (r + 1)) w4 by rw [HS.out]; exact HG.out.1.app (more_alloc _ _) (by rw [HG.out.2]; exact hown4) hgrow)
          obtain ⟨ao4, cap4, rfl⟩ := wshape_of hown4
          clear hown4 hgrow
          go_wp2
          go_roundw
          case rel => exact ⟨r + 1, by omega, by go_num, HN.out⟩
          case measure => simp [intOf]; omega
    · obtain rfl : r = K := by omega
      have hj := rf_join _ (lnL ts g r) wr hG.rd.ard (by omega) (fun j hj => by rw [HL.out.2.2.2.2 r j (by omega)]; exact HL.out.2.2.2.1 _)
      rw [HL.out.2.2.1 r, HJ.out] at hj
      have HG := Hid.mk hG.more
      clear hG hgl
      go_wp2_with (go_at_call 49; refine hj.mono ?_; rintro e w' ⟨rfl, hw'⟩; subst w')
      go_ret
      exact ⟨rfl, HG.out⟩
end Go.Proofs.Ytbpegpgbdemomaa
