/-
  The document's own answers: Words, Same, Ones, Next, Of.
-/
import Derived.Test.YtgcjbkcfcklcfaaDoorRefA
namespace Go.Proofs.YtgcjbkcfcklcfaaDoor
open Go.RowKit

theorem BRd.more {w w' : World} {v : Value} {n V : Nat} (h : BRd w v n V) (k : More w w') : BRd w' v n V := by
  rcases h with h | ⟨g, cap, rfl, hc⟩
  · exact .inl h
  · exact .inr ⟨g, cap, rfl, fun j hj => (k.cell (p := ⟨g, j, none⟩) (World.block_lt_of_cell? w ⟨g, j, none⟩ (hc j hj))).trans (hc j hj)⟩
theorem Rd.more {w w' : World} {v : Value} {K : Nat} {f : Nat → Nat} (h : Rd w v K f) (k : More w w') : Rd w' v K f := by
  rcases h with h | ⟨g, o, cap, rfl, hg, hc⟩
  · exact .inl h
  · exact .inr ⟨g, o, cap, rfl, Nat.lt_of_lt_of_le hg k.size, fun j hj => (k.cell (p := ⟨g, o + j, none⟩) hg).trans (hc j hj)⟩
theorem Rd.shape {w : World} {v : Value} {K : Nat} {f : Nat → Nat} (h : Rd w v K f) : ∃ ao cap, v = .slice ao K cap := by
  rcases h with ⟨rfl, ao, cap, rfl⟩ | ⟨g, o, cap, rfl, _⟩
  · exact ⟨_, _, rfl⟩
  · exact ⟨_, _, rfl⟩

theorem cut64 (v : Value) (n V k : Nat) (w : World) (h : BRd w v n V) (hV : V < 2 ^ n) (hn : n ≤ 1099511627776) (hk : 64 * k ≤ 1099511627776) :
    Calls Tryd.prog 39 #[v, .int .i64 ((64 * k : Nat) : Int), .int .i64 64] w fun e w' => e = .returned (.int .u64 (wd V k : Nat)) ∧ w' = w := by
  refine (ref_cut v n V ((64 * k : Nat) : Int) 64 w h hV hn (by omega) (by omega)).mono ?_
  rintro e w' ⟨rfl, rfl⟩
  refine ⟨?_, rfl⟩
  rw [show min 64 (Int.toNat 64) = 64 from rfl, cutV_word]

set_option maxRecDepth 1000000 in
theorem ref_words (v : Value) (n V : Nat) (w : World) (h : BRd w v n V) (hV : V < 2 ^ n) (hn : n ≤ 1099511600000) :
    Calls Tryd.prog 15 #[v] w fun e w' => ∃ v', e = .returned v' ∧ w'.ownsRow w.heap.size 32 1 v' (nw n) (u64s (wd V) (nw n)) ∧ More w w' := by
  obtain ⟨i0, hi, hz0, hz1, hz2⟩ := info_parts Tryd.info36
  obtain ⟨ao, cap, rfl⟩ := h.shape
  have HH : Hid _ := And.intro h hV
  clear h hV
  go_enter Tryd.func15, Tryd.ntmps15
  go_wp2
  go_loopw [3, 4] (fun v i wr => ∃ k I : Nat, I ≤ n + 63 ∧ i = .int .i64 I ∧ Hid (I = 64 * k) ∧ Hid (wr.ownsRow w.heap.size 32 1 v k (u64s (wd V) k) ∧ Below w.heap.size w wr)) (fun _ i _ => n + 64 - (intOf i).toNat)
  case atStart => exact ⟨0, 0, Nat.zero_le _, rfl, Hid.mk rfl, Hid.mk ⟨World.ownsRow_nil _ _ _ _, Below.refl _ _⟩⟩
  case round =>
    obtain ⟨k, I, hk, rfl, hI, hown⟩ := hrel
    obtain ⟨ao1, cap1, rfl⟩ := shape_of hown.out.1
    by_cases hkN : I < n
    · have hcut := cut64 (.slice ao n cap) n V k wr (HH.out.1.more hown.out.2) HH.out.2 (by omega) (by have := hI.out; omega)
      rw [← hI.out] at hcut
      have hkl : k ≤ 1099511627776 := by have := hI.out; omega
      go_wp2_with (first
        | (go_at_call 39; refine hcut.mono ?_; rintro e w' ⟨rfl, rfl⟩)
        | (at_builtin; refine wpList_append_own _ rfl (.tmp 11) (.tmp 15) 40 rfl w.heap.size 32 i0 (.int .u64 0) 1 8 Tryd.underlying40 hi hz0 hz1 hz2 rfl (by decide) _ _ _ rfl (hown.out.1.alloc _) ⟨_, 0, none⟩ 1 1 [.int .u64 (wd V k : Nat)] rfl rfl ?c1 ?c2b ?c3b ?c4b ?c5b ?_))
      case c1 => exact one_cell _ _ _
      case c2b => exact one_u64 _
      case c3b => unfold maxLen; omega
      case c4b => omega
      case c5b => have := hown.out.2.size; simp; omega
      intro v2 w2 hown2 hgrow2 _
      rw [← u64s_succ] at hown2
      have hbel2 : Below w.heap.size w w2 := (hown.out.2.alloc hown.out.2.size _).grown hgrow2 (by have := hown.out.2.size; simp; omega) (fun j hj => (hown.out.1.lt j hj).1)
      have HG : Hid _ := And.intro hown2 hbel2
      clear hown2 hbel2 hgrow2 hown hcut
      go_wp2
      refine ⟨⟨k + 1, I + 64, by omega, by go_num, Hid.mk (by have := hI.out; omega), Hid.mk HG.out⟩, by simp [intOf]; omega⟩
    · go_wp2
      have hkn : k = nw n := by have := hI.out; unfold nw; omega
      go_ret
      rw [← hkn]
      exact ⟨_, rfl, hown.out.1, hown.out.2⟩

set_option maxHeartbeats 800000 in
theorem ref_same (a b : Value) (K L : Nat) (f f' : Nat → Nat) (w : World) (h : Rd w a K f) (h' : Rd w b L f') (hK : K ≤ 1099511627776) (hL : L ≤ 1099511627776) :
    Calls Tryd.prog 13 #[a, b] w fun e w' => ∃ r, e = .returned (.bool r) ∧ (r = true ↔ K = L ∧ ∀ j, j < K → f j = f' j) ∧ ∃ m, w' = w.drewN m := by
  by_cases hKL : K = L
  · subst hKL
    by_cases h0 : K = 0
    · obtain ⟨ao, cap, rfl⟩ := h.shape
      obtain ⟨ao', cap', rfl⟩ := h'.shape
      subst h0
      clear h h'
      go_enter Tryd.func13, Tryd.ntmps13
      go_wp2
      refine wp_loop_rounds 1 ?_; rw [rounds_succ]; go_wp2
      go_ret
      exact ⟨_, rfl, by simp, 0, rfl⟩
    · obtain ⟨g, o, cap, rfl, _, hc⟩ : ∃ g o cap, a = .slice (some ⟨g, o, none⟩) K cap ∧ g < w.heap.size ∧ ∀ j, j < K → w.cell? ⟨g, o + j, none⟩ = some (.int .u64 (f j : Nat)) := by
        rcases h with ⟨rfl, _⟩ | h
        · omega
        · exact h
      obtain ⟨g', o', cap', rfl, _, hc'⟩ : ∃ g o cap, b = .slice (some ⟨g, o, none⟩) K cap ∧ g < w.heap.size ∧ ∀ j, j < K → w.cell? ⟨g, o + j, none⟩ = some (.int .u64 (f' j : Nat)) := by
        rcases h' with ⟨rfl, _⟩ | h
        · omega
        · exact h
      have HC : Hid _ := And.intro hc hc'
      clear h h' hc hc'
      go_enter Tryd.func13, Tryd.ntmps13
      go_wp2
      go_loopw [5] (fun i wr => ∃ k : Nat, k ≤ K ∧ i = .int .i64 k ∧ (∃ m, wr = w.drewN m) ∧ Hid (∀ j, j < k → f j = f' j)) (fun i _ => K - (intOf i).toNat)
      case atStart => exact ⟨0, Nat.zero_le _, rfl, ⟨0, rfl⟩, Hid.mk fun j hj => by omega⟩
      case round =>
        obtain ⟨k, hk, rfl, ⟨m, rfl⟩, hw⟩ := hrel
        have hck : k < K → w.cell? ⟨g, o + k, none⟩ = some (.int .u64 (f k : Nat)) := HC.out.1 k
        have hck' : k < K → w.cell? ⟨g', o' + k, none⟩ = some (.int .u64 (f' k : Nat)) := HC.out.2 k
        by_cases hkK : k < K
        · go_wp2_with fail
          go_quiet (fail)
          go_wp2
          · rename_i hne
            go_ret
            refine ⟨_, rfl, ?_, m + nq, by simp⟩
            simp only [Bool.false_eq_true, false_iff]
            intro hh
            rw [hh.2 k hkK] at hne
            simp at hne
          · rename_i heq
            have heq : f k = f' k := by have h2 : ((f k : Nat) : Int) = ((f' k : Nat) : Int) := by simpa using heq
                                        omega
            refine ⟨⟨k + 1, by omega, by go_num, ⟨_, rfl⟩, Hid.mk fun j hj => ?_⟩, by simp [intOf]; omega⟩
            rcases (show j < k ∨ j = k by omega) with h | rfl
            · exact hw.out j h
            · exact heq
        · go_wp2
          go_ret
          refine ⟨_, rfl, ?_, m, rfl⟩
          exact ⟨fun _ => ⟨by trivial, fun j hj => hw.out j (by omega)⟩, fun _ => by trivial⟩
  · have hne : ((K : Int) != (L : Int)) = true := by simp; omega
    obtain ⟨ao, cap, rfl⟩ := h.shape
    obtain ⟨ao', cap', rfl⟩ := h'.shape
    clear h h'
    go_enter Tryd.func13, Tryd.ntmps13
    go_wp2
    go_ret
    exact ⟨_, rfl, by simp [hKL], 0, rfl⟩

theorem rk_succ (V k : Nat) : rk V (k + 1) = rk V k + (if V.testBit k = true then 1 else 0) := by
  have := rk_add V k 1
  rw [this]
  congr 1
  rw [bit_eq]
  simp [rk]
  split <;> omega

theorem nw_nw (n : Nat) : nw (64 * nw n) = nw n := by unfold nw; omega

/-- Words are those of a row of n bits just if there are as many as can be, and none is too great. -/
theorem of_iff (f : Nat → Nat) (n K : Nat) (hf : ∀ j, j < K → f j < 18446744073709551616) : (nw n = K ∧ ∀ j, j < nw n → wd (ofW f K % 2 ^ n) j = f j) ↔ (K = nw n ∧ ofW f K < 2 ^ n) := by
  constructor
  · rintro ⟨rfl, h⟩
    refine ⟨rfl, ?_⟩
    have h1 := ofW_lt f (nw n) hf
    have h2 : ofW f (nw n) % 2 ^ n < 2 ^ n := Nat.mod_lt _ (Nat.two_pow_pos n)
    have h3 : 2 ^ n ≤ 2 ^ (64 * nw n) := Nat.pow_le_pow_right (by decide) (by unfold nw; omega)
    have h4 := eq_of_words (n := 64 * nw n) (V := ofW f (nw n) % 2 ^ n) (W := ofW f (nw n)) (by omega) h1 (fun j hj => by
      have e : nw (64 * nw n) = nw n := nw_nw n
      have hj' : j < nw n := by omega
      rw [h j hj', ofW_wd f _ hf j hj'])
    omega
  · rintro ⟨rfl, h⟩
    refine ⟨rfl, fun j hj => ?_⟩
    rw [Nat.mod_eq_of_lt h, ofW_wd f _ hf j hj]

end Go.Proofs.YtgcjbkcfcklcfaaDoor
