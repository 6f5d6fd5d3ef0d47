/-
  The document's GetRow, and what it makes of bytes.
-/
import Derived.Test.YtbjgbigalfhnjaaGreatDoorSet23
import Derived.Test.YtbjgbigalfhnjaaGreatDoorWireRefR
import Derived.Test.YtbjgbigalfhnjaaGreatDoorSbGet
namespace Go.Proofs.YtbjgbigalfhnjaaGreatDoor
open Go.RowKit

/-- What the document's GetRow tells. -/
structure DocRow (w : World) (base x : Nat) (l : List UInt8) (n : Nat) (v : List UInt8) (t er : Nat) (e : Ending) (w' : World) : Prop where
  keeps : KeepsT XT base w w'
  what : (er ≠ 0 ∧ e = .returned (.slice none 0 0) ∧ XAt w' base x (l.drop t) er) ∨
    (er = 0 ∧ ofB v < 2 ^ n ∧ XAt w' base x (l.drop t) 0 ∧ ∃ s, e = .returned s ∧ w'.ownsRow w.heap.size 4 1 s n (bools (ofB v) n)) ∨
    (er = 0 ∧ ¬ ofB v < 2 ^ n ∧ e = .returned (.slice none 0 0) ∧ XAt w' base x (l.drop t) 3)

theorem fit_of_none {l : List UInt8} {n : Nat} (h : ∀ j, n ≤ j → j < 8 * l.length → (ofB l).testBit j = false) : ofB l < 2 ^ n := by
  apply Nat.lt_of_not_le
  intro hge
  obtain ⟨j, hj, hb⟩ := Nat.exists_ge_and_testBit_of_ge_two_pow hge
  by_cases h8 : j < 8 * l.length
  · rw [h j hj h8] at hb; cases hb
  · rw [bit_above (ofB_lt2 l) (by omega)] at hb; cases hb
theorem not_fit {V n j : Nat} (hj : n ≤ j) (hb : V.testBit j = true) : ¬ V < 2 ^ n := fun h => by rw [bit_above h hj] at hb; cases hb

set_option maxHeartbeats 1600000 in
set_option maxRecDepth 1000000 in
theorem rsb_getRow (base x E n t er : Nat) (z : Int) (v l : List UInt8) (w : World) (h : XAt w base x l E) (hz : max z 0 = (n : Int)) (hn : n ≤ 9223372036854775807) (hq : st E [] (rdR l (nby n : Nat)) = (v, t, er)) :
    Calls Tryz.prog 35 #[.pointer (some ⟨x, 0, none⟩), .int .i64 z] w fun e w' => DocRow w base x l n v t er e w' := by
  obtain ⟨i0, hi, hz0, hz1, hz2⟩ := info_parts Tryz.info4
  have hnb : nby n ≤ 1152921504606846976 := by rw [nby_is]; omega
  have hraw := ref_rraw base x t er E (nby n : Nat) v l w h (by omega) hq
  have hv : er = 0 → v.length = nby n ∧ nby n ≤ 100000000 := fun h0 => by
    subst h0
    have hE0 : E = 0 := by
      by_cases hE : E = 0
      · exact hE
      · rw [st_no hE] at hq; simp at hq; exact absurd hq.2.2 hE
    subst hE0
    rw [st_ok] at hq
    unfold rdR at hq
    rw [if_neg (by omega)] at hq
    unfold cutR at hq
    split at hq
    · simp at hq
    · simp at hq
      have := h.len
      rename_i hlt
      rw [← hq.1, List.length_take]
      omega
  obtain ⟨q, hqe⟩ : ∃ q, n / 8 = q := ⟨_, rfl⟩
  obtain ⟨r, hre⟩ : ∃ r, n % 8 = r := ⟨_, rfl⟩
  have e1 : (n : Int) / 8 = q := by omega
  have e2 : (n : Int) % 8 = r := by omega
  obtain ⟨m, hm⟩ : ∃ m, min r 1 = m := ⟨_, rfl⟩
  have e3 : min (r : Int) 1 = m := by omega
  obtain ⟨K, hK⟩ : ∃ K, nby n = K := ⟨_, rfl⟩
  have e4 : (q : Int) + (m : Int) = K := by rw [← hK]; unfold nby; omega
  have hqb : q ≤ 1152921504606846975 := by omega
  have hmb : m ≤ 1 := by omega
  have hwK : IntKind.i64.wrap (K : Int) = K := by rw [IntKind.wrap_i64]; omega
  rw [hK] at hraw hv
  have HH := Hid.mk (And.intro h hK)
  clear h hq hqe hre hm hK
  by_cases h0 : er = 0
  · subst h0
    obtain ⟨hvl, hKb⟩ := hv rfl
    have hsv : (bs v).size = K := by rw [bs_size]; exact hvl
    have hnK : n ≤ 800000000 := by have h1 := HH.out.2; have := nby_le n; omega
    have hw8 : IntKind.i64.wrap (8 * (K : Int)) = 8 * (K : Int) := by rw [IntKind.wrap_i64]; omega
    clear hv
    go_enter Tryz.func35, Tryz.ntmps35
    go_wp2_with (go_at_call 65; refine hraw.mono ?_; rintro e w1 ⟨rfl, hx1, hk1⟩; obtain ⟨c0, c1, z0, z1⟩ := wcells2 hx1.mem; have H1 := Hid.mk (And.intro hx1 hk1); clear hx1 hk1 hraw)
    go_loopw [6, 7] (fun s i wr => ∃ k : Nat, i = .int .i64 k ∧ k ≤ 8 * K ∧ Hid (wr.ownsRow w1.heap.size 4 1 s (min k n) (bools (ofB v) (min k n)) ∧ More w1 wr ∧ ∀ j, n ≤ j → j < k → (ofB v).testBit j = false)) (fun _ i _ => 8 * K - (intOf i).toNat)
    case atStart => exact ⟨0, rfl, Nat.zero_le _, Hid.mk ⟨by rw [Nat.zero_min]; exact World.ownsRow_nil _ _ _ _, Below.refl _ _, fun j _ hj => by omega⟩⟩
    case round =>
      obtain ⟨k, rfl, hk, HR⟩ := hrel
      obtain ⟨af, cf, rfl⟩ := shape_of HR.out.1
      by_cases hkK : k < 8 * K
      · obtain ⟨p, hp⟩ : ∃ p, k / 8 = p := ⟨_, rfl⟩
        obtain ⟨u, hu⟩ : ∃ u, k % 8 = u := ⟨_, rfl⟩
        have f1 : (k : Int) / 8 = p := by omega
        have f2 : (k : Int) % 8 = u := by omega
        have hpK : p < K := by omega
        have hlt : p < (bs v).size := by omega
        obtain ⟨X, hX⟩ : ∃ X, bt v p = X := ⟨_, rfl⟩
        have hbt : ((bs v)[p]'hlt).toNat = X := by rw [bt_bs, hX]
        have hXb : X < 256 := by rw [← hX]; exact bt_lt _ _
        have hbit := fun w => ref_Bit X (by omega) (u : Int) w
        have hbv : btI X (u : Int) = (ofB v).testBit k := by
          rw [ofB_bit, hp, hu, hX, bit_eq]
          simp [btI]; omega
        rw [hbv] at hbit
        have hkK' : (k : Int) < 8 * (K : Int) := by omega
        have hu8 : u < 8 := by omega
        obtain ⟨y, hy⟩ : ∃ y, (ofB v).testBit k = y := ⟨_, rfl⟩
        rw [hy] at hbit
        have HY := Hid.mk hy
        clear hp hu hX hbv hy
        by_cases hkn : k < n
        · have hmk : min k n = k := by omega
          have hown := HR.out.1
          rw [hmk] at hown ⊢
          have HO := Hid.mk hown
          have hnx : Hid (bools (ofB v) k ++ [.bool y] = bools (ofB v) (k + 1)) := Hid.mk (by rw [bools_succ, HY.out])
          clear hown hmk
          go_wp2_with (first
            | (go_at_call 66; refine (hbit _).mono ?_; rintro e w' ⟨rfl, hw⟩; subst w')
            | (at_builtin; refine wpList_append_own _ rfl (.tmp 42) (.tmp 44) 70 rfl w1.heap.size 4 i0 (.bool false) 1 1 Tryz.underlying70 hi hz0 hz1 hz2 rfl (by decide) _ _ _ rfl (HO.out.alloc _) ⟨_, 0, none⟩ 1 1 [.bool y] rfl rfl (one_cell _ _ _) (one_bool _) (by unfold maxLen; omega) (by omega) (by have := HR.out.2.1.size; simp; omega) ?_))
          intro v2 w2 hown2 hgrow2 _
          rw [hnx.out] at hown2
          have hbel2 : More w1 w2 := (Below.alloc HR.out.2.1 HR.out.2.1.size _).grown hgrow2 (by have := HR.out.2.1.size; simp; omega) (fun j hj => (HO.out.lt j hj).1)
          have HG := Hid.mk (And.intro hown2 hbel2)
          clear hown2 hbel2 hgrow2
          go_wp2
          refine ⟨⟨k + 1, by go_num, by omega, Hid.mk ⟨by rw [show min (k + 1) n = k + 1 by omega]; exact HG.out.1, HG.out.2, fun j h1 h2 => by omega⟩⟩, by simp [intOf]; omega⟩
        · have hmk : min k n = n := by omega
          have hown := HR.out.1
          rw [hmk] at hown ⊢
          have HO := Hid.mk hown
          have hkn' : ¬ (k : Int) < (n : Int) := by omega
          clear hown hmk
          cases y with
          | false =>
            go_wp2_with (go_at_call 66; refine (hbit _).mono ?_; rintro e w' ⟨rfl, hw⟩; subst w')
            refine ⟨⟨k + 1, by go_num, by omega, Hid.mk ⟨by rw [show min (k + 1) n = n by omega]; exact HO.out, HR.out.2.1, fun j h1 h2 => ?_⟩⟩, by simp [intOf]; omega⟩
            rcases (show j < k ∨ j = k by omega) with h | rfl
            · exact HR.out.2.2 j h1 h
            · exact HY.out
          | true =>
            have hxr := H1.out.1.more HR.out.2.1
            obtain ⟨d0, d1, y0, y1⟩ := wcells2 hxr.mem
            have hset := hxr.errs (E' := 3)
            have HX := Hid.mk (And.intro hset.1 (And.intro ((H1.out.2.trans (KeepsT.more HR.out.2.1 H1.out.1.sz)).trans hset.2) (not_fit (show n ≤ k by omega) HY.out)))
            clear hset hxr
            go_wp2_with (go_at_call 66; refine (hbit _).mono ?_; rintro e w' ⟨rfl, hw⟩; subst w')
            go_ret
            exact ⟨HX.out.2.1, .inr (.inr ⟨rfl, HX.out.2.2, rfl, HX.out.1⟩)⟩
      · have hkK' : ¬ (k : Int) < 8 * (K : Int) := by omega
        have hkn : n ≤ k := by have h1 := HH.out.2; have := nby_le n; omega
        have hown := HR.out.1
        rw [show min k n = n by omega] at hown ⊢
        have hfit : ofB v < 2 ^ n := fit_of_none (fun j h1 h2 => HR.out.2.2 j h1 (by omega))
        have HO := Hid.mk (And.intro hown hfit)
        clear hown hfit
        go_wp2
        go_ret
        exact ⟨H1.out.2.trans (KeepsT.more HR.out.2.1 H1.out.1.sz), .inr (.inl ⟨rfl, HO.out.2, H1.out.1.more HR.out.2.1, _, rfl, own_lower HO.out.1 H1.out.2.below.size⟩)⟩
  · have h0' : ¬ (er : Int) = 0 := by omega
    clear hv
    go_enter Tryz.func35, Tryz.ntmps35
    go_wp2_with (go_at_call 65; refine hraw.mono ?_; rintro e w1 ⟨rfl, hx1, hk1⟩; obtain ⟨c0, c1, z0, z1⟩ := wcells2 hx1.mem; have H1 := Hid.mk (And.intro hx1 hk1); clear hx1 hk1 hraw)
    go_ret
    exact ⟨H1.out.2, .inl ⟨h0, rfl, H1.out.1⟩⟩

end Go.Proofs.YtbjgbigalfhnjaaGreatDoor
