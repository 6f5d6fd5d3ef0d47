/-
  elias: the low part.
-/
import Derived.Test.YtgcaenpflndibaaDoorEliasA
import Derived.OwnWalk
namespace Go.Proofs.YtgcaenpflndibaaDoor
open Go.RowKit

theorem RowAt.lower {w : World} {base base' b V n : Nat} (h : RowAt w base b V n) (hb : base' ≤ base) : RowAt w base' b V n := by
  obtain ⟨v, hv, hown⟩ := h.mem
  exact ⟨Nat.le_trans hb h.lo, h.fit, h.len, v, hv, own_lower hown hb⟩
theorem PackAt.lower {w : World} {base base' p V d n : Nat} (h : PackAt w base p V d n) (hb : base' ≤ base) : PackAt w base' p V d n := by
  obtain ⟨b, hp, hr⟩ := h.mem
  exact ⟨Nat.le_trans hb h.lo, h.wid, h.num, b, hp, hr.lower hb⟩
theorem SDirAt.lower {w : World} {base base' d V n : Nat} (h : SDirAt w base d V n) (hb : base' ≤ base) : SDirAt w base' d V n := by
  obtain ⟨v, m, hd, hv, hm⟩ := h.mem
  exact ⟨h.fit, h.len, Nat.le_trans hb h.lo, v, m, hd, own_lower hv hb, own_lower hm hb⟩

/-- The low bits of the first k numbers, noughts behind them. -/
def lowTo (f : Nat → Nat) (d k i : Nat) : Nat := if i < k then f i % 2 ^ d else 0
theorem lowTo_set (f : Nat → Nat) (d k K : Nat) : (u64s (lowTo f d k) K).set k (.int .u64 (f k % 2 ^ d : Nat)) = u64s (lowTo f d (k + 1)) K := by
  apply List.ext_getElem?
  intro i
  by_cases hi : i < K
  · rw [u64s_get _ _ _ hi, List.getElem?_set]
    by_cases h : k = i
    · subst h; simp [u64s_len, hi, lowTo]
    · rw [if_neg h, u64s_get _ _ _ hi]
      unfold lowTo
      by_cases h2 : i < k
      · rw [if_pos h2, if_pos (by omega)]
      · rw [if_neg h2, if_neg (by omega)]
  · rw [List.getElem?_eq_none (by simp [u64s_len]; omega), List.getElem?_eq_none (by simp [u64s_len]; omega)]
theorem lowTo_all (f : Nat → Nat) (d K : Nat) : u64s (lowTo f d K) K = u64s (fun i => f i % 2 ^ d) K := u64s_congr fun _ hi => if_pos hi
theorem lowTo_none (f : Nat → Nat) (d K : Nat) : (madeCells (Value.int IntKind.u64 0).cells (K * 1)).toList = u64s (lowTo f d 0) K := by
  apply List.ext_getElem?
  intro i
  by_cases hi : i < K
  · rw [u64s_get _ _ _ hi]
    simp [madeCells, lowTo, hi, Value.cells, Nat.mod_one]
  · rw [List.getElem?_eq_none (by simp [madeCells]; omega), List.getElem?_eq_none (by simp [u64s_len]; omega)]

set_option maxHeartbeats 800000 in
set_option maxRecDepth 1000000 in
theorem el_lowPart (v : Value) (K d : Nat) (f : Nat → Nat) (w : World) (h : ZRd w v K (fun j => (f j : Int))) (hf : ∀ j, j < K → f j ≤ 1099511627776) (hd : d ≤ 64) (hK : K ≤ 1000) :
    Calls Tryd.prog 21 #[v, .int .i64 d] w fun e w' => ∃ p, e = .returned (.pointer (some ⟨p, 0, none⟩)) ∧ PackAt w' w.heap.size p (packV d (fun i => f i % 2 ^ d) K) d K ∧ More w w' := by
  obtain ⟨ao, cap, rfl⟩ := h.shape
  obtain ⟨i0, hi, hz0, hz1, hz2⟩ := info_parts Tryd.info36
  have HH := Hid.mk (And.intro h hf)
  clear h hf
  go_enter Tryd.func21, Tryd.ntmps21
  go_wp2_with (refine wpList_make_full _ rfl _ _ 58 rfl w.heap.size 57 i0 (.int .u64 0) 1 Tryd.underlying58 hi hz0 hz1 .i64 .i64 K K K rfl rfl rfl rfl (by rw [hz2]; omega) (by unfold maxLen; omega) (Nat.le_refl _) ?_; intro w1 hown hg; have H1 := Hid.mk (And.intro hown hg); clear hown hg)
  have hs1 : w.heap.size < w1.heap.size := by
    rcases H1.out.1.2 with ⟨h, _⟩ | ⟨g, c, cur, h, _, hg, _⟩
    · cases h
    · simp at h; obtain ⟨rfl, _⟩ := h; exact lt_of_block hg
  have hm1 : More w w1 := ⟨H1.out.2.os, H1.out.2.tape, H1.out.2.output, H1.out.2.size, fun k hk => H1.out.2.block k hk (by simp)⟩
  have h0 := H1.out.1
  rw [lowTo_none f d K] at h0
  go_loopw [15] (fun i wr => ∃ k : Nat, k ≤ K ∧ i = .int .i64 k ∧ Hid (wr.ownsRow w.heap.size 57 1 (.slice (some ⟨w.heap.size, 0, none⟩) K K) K (u64s (lowTo f d k) K) ∧ More w wr ∧ w.heap.size < wr.heap.size)) (fun i _ => K - (intOf i).toNat)
  case atStart => exact ⟨0, Nat.zero_le _, rfl, Hid.mk ⟨h0, hm1, hs1⟩⟩
  case round =>
    obtain ⟨k, hk, rfl, HR⟩ := hrel
    by_cases hkK : k < K
    · obtain ⟨g, o, rfl, hc⟩ := HH.out.1.cell (w' := wr) k hkK
      have hck := hc HR.out.2.1
      clear hc
      have hlb := fun w => el_lowBits (f k) d (by have := HH.out.2 k hkK; omega) hd w
      obtain ⟨X, hX⟩ : ∃ X, f k % 2 ^ d = X := ⟨_, rfl⟩
      rw [hX] at hlb
      have HX := Hid.mk hX
      clear hX
      have hfz : ∀ m, (wr.drewN m).frozen? ⟨w.heap.size, k, none⟩ = false := fun m => HR.out.1.frozenAt k
      have hcl : ∀ m, (wr.drewN m).cell? ⟨w.heap.size, k, none⟩ = some (.int .u64 (lowTo f d k k : Nat)) := fun m => by
        have := HR.out.1.cellAt k (by omega)
        rw [u64s_get _ _ _ hkK] at this
        exact this
      go_wp2_with (go_at_call 32; refine (hlb _).mono ?_; rintro e w' ⟨rfl, m, hw⟩; subst w')
      refine ⟨⟨k + 1, by omega, by go_num, Hid.mk ?_⟩, by simp [intOf]; omega⟩
      have hs := (HR.out.1.stored k (.int .u64 (X : Nat))).1
      rw [← HX.out, lowTo_set f d k K, HX.out] at hs
      exact ⟨hs, (More.trans HR.out.2.1 (More.drewN wr m)).setCell (p := ⟨w.heap.size, k, none⟩) (Nat.le_refl _) _, Nat.lt_of_lt_of_le HR.out.2.2 ((Below.refl 0 (wr.drewN m)).setCell (p := ⟨w.heap.size, k, none⟩) (Nat.zero_le _) _).size⟩
    · obtain rfl : k = K := by omega
      have hr := HR.out.1
      rw [lowTo_all] at hr
      have hpn := pack_new _ k d (fun i => f i % 2 ^ d) wr (rd_of_own hr) (fun j _ => mod_lt64 _ _ hd) hd (by omega)
      have hfit : wid (fun i => f i % 2 ^ d) k ≤ d := (wid_le _ _ _).2 fun j _ => Lib.bitLen_le _ d hd (Nat.mod_lt _ (Nat.two_pow_pos d))
      have HP := Hid.mk hfit
      clear hr hfit
      go_wp2_with (go_at_call 33; refine hpn.mono ?_; rintro e w2 ⟨⟨_, p, rfl, hp⟩ | ⟨hh, _⟩, hm⟩; rotate_left; exact absurd HP.out hh; have H2 := Hid.mk (And.intro hp hm); clear hp hm)
      go_ret
      exact ⟨_, rfl, H2.out.1.lower HR.out.2.1.size, More.trans HR.out.2.1 H2.out.2⟩

end Go.Proofs.YtgcaenpflndibaaDoor
