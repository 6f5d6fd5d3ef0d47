/-
  The document's answers for seldir: Places, At.
-/
import Derived.Test.YtmhbejgmcphebaaDoorSelTell
namespace Go.Proofs.YtmhbejgmcphebaaDoor
open Go.RowKit

theorem BRd.at {w : World} {ao : Option Addr} {n cap V : Nat} (h : BRd w (.slice ao n cap) n V) (hn : 0 < n) : ∃ g, ao = some ⟨g, 0, none⟩ ∧ ∀ k, k < n → w.cell? ⟨g, k, none⟩ = some (.bool (V.testBit k)) := by
  rcases h with ⟨rfl, _⟩ | ⟨g, cap', h, hc⟩
  · omega
  · simp at h
    exact ⟨g, h.1, hc⟩

/-- What is looked for. -/
def oneV (V n : Nat) : Bool → Nat
  | true => V
  | false => flipV V (nw n)
theorem oneV_bit {V n : Nat} (h : V < 2 ^ n) (one : Bool) (i : Nat) (hi : i < n) : (oneV V n one).testBit i = (V.testBit i == one) := by
  have hn : n ≤ 64 * nw n := by unfold nw; omega
  cases one with
  | true => simp [oneV]
  | false =>
    rw [oneV, flip_bit (Nat.lt_of_lt_of_le h (Nat.pow_le_pow_right (by decide) hn))]
    simp [show i < 64 * nw n by omega]

set_option maxHeartbeats 800000 in
set_option maxRecDepth 1000000 in
theorem ref_places (v : Value) (n V U : Nat) (one : Bool) (w : World) (h : BRd w v n V) (hU : ∀ i, i < n → U.testBit i = (V.testBit i == one)) (hn : n ≤ 1099511627776) :
    Calls Tryd.prog 8 #[v, .bool one] w fun e w' => ∃ v', e = .returned v' ∧ w'.ownsRow w.heap.size 3 1 v' (rk U n) (ints (pl U n) (rk U n)) ∧ More w w' := by
  obtain ⟨i0, hi, hz0, hz1, hz2⟩ := info_parts Tryd.infoInt
  obtain ⟨ao, cap, rfl⟩ := h.shape
  have HH := Hid.mk (And.intro h hU)
  clear h hU
  go_enter Tryd.func8, Tryd.ntmps8
  go_wp2
  go_loopw [5, 6] (fun o c wr => ∃ i R : Nat, i ≤ n ∧ R ≤ i ∧ c = .int .i64 i ∧ Hid (R = rk U i) ∧ Hid (wr.ownsRow w.heap.size 3 1 o R (ints (pl U n) R) ∧ Below w.heap.size w wr)) (fun _ c _ => n - (intOf c).toNat)
  case atStart => exact ⟨0, 0, Nat.zero_le _, Nat.zero_le _, rfl, Hid.mk rfl, Hid.mk ⟨World.ownsRow_nil _ _ _ _, Below.refl _ _⟩⟩
  case round =>
    obtain ⟨i, R, hin, hRi, rfl, HI, HR⟩ := hrel
    obtain ⟨am, cm, rfl⟩ := shape_of HR.out.1
    by_cases hlt : i < n
    · obtain ⟨g, rfl, hg⟩ := (HH.out.1.more HR.out.2).at (by omega)
      have hgi := hg i hlt
      have hst := rk_step U i
      rw [HH.out.2 i hlt, ← HI.out] at hst
      by_cases hb : V.testBit i = one
      · have hUb : U.testBit i = true := by rw [HH.out.2 i hlt, hb]; simp
        have hpl := pl_step U n i hlt hUb
        have hlist : ints (pl U n) R ++ [.int .i64 (i : Int)] = ints (pl U n) (R + 1) := by rw [ints_succ, HI.out, hpl]
        rw [hb] at hgi hst
        have HS := Hid.mk (And.intro (show rk U (i + 1) = R + 1 by rw [hst]; simp) hlist)
        clear hst hb hUb hpl hlist hg
        have hoo : (one == one) = true := by simp
        go_wp2_with (at_builtin; refine wpList_append_own _ rfl (.tmp 19) (.tmp 21) 32 rfl w.heap.size 3 i0 (.int .i64 0) 1 8 Tryd.underlying32 hi hz0 hz1 hz2 rfl (by decide) _ _ _ rfl (HR.out.1.alloc _) ⟨wr.heap.size, 0, none⟩ 1 1 [.int .i64 (i : Int)] rfl rfl ?c1 ?c2 ?c3 ?c4 ?c5 ?_)
        case c1 => exact one_cell _ _ _
        case c2 => exact one_i64 _
        case c3 => unfold maxLen; omega
        case c4 => omega
        case c5 => have := HR.out.2.size; simp; omega
        intro v' w2 hown2 hgrow2 _
        rw [HS.out.2] at hown2
        have hbel2 : Below w.heap.size w w2 := (HR.out.2.alloc HR.out.2.size _).grown hgrow2 (by have := HR.out.2.size; simp; omega) (fun j hj => (HR.out.1.lt j hj).1)
        have HG := Hid.mk (And.intro hown2 hbel2)
        clear hown2 hbel2 hgrow2 HR
        go_wp2
        refine ⟨⟨i + 1, R + 1, by omega, by omega, by go_num, Hid.mk HS.out.1.symm, Hid.mk HG.out⟩, by simp [intOf]; omega⟩
      · have hbf : (V.testBit i == one) = false := by simp [hb]
        rw [hbf] at hst
        have HS := Hid.mk (show rk U (i + 1) = R by rw [hst]; simp)
        clear hst hg
        have hbn : ¬ V.testBit i = one := hb
        go_wp2
        refine ⟨⟨i + 1, R, by omega, by omega, by go_num, Hid.mk HS.out.symm, Hid.mk HR.out⟩, by simp [intOf]; omega⟩
    · obtain rfl : i = n := by omega
      go_wp2
      go_ret
      have hR := HR.out
      rw [HI.out] at hR
      exact ⟨_, rfl, by rw [← HI.out] at hR ⊢; exact HR.out.1, HR.out.2⟩

theorem at_sel (U n : Nat) (k : Int) : (if 0 ≤ k ∧ k < (rk U n : Nat) then (pl U n k.toNat : Int) else -1) = sel U k n := by
  by_cases hk : 0 ≤ k ∧ k < (rk U n : Nat)
  · rw [if_pos hk]
    obtain ⟨k, rfl⟩ := Int.eq_ofNat_of_zero_le hk.1
    exact pl_at U n k (by omega)
  · rw [if_neg hk, sel_outN U k n (by omega)]

end Go.Proofs.YtmhbejgmcphebaaDoor
