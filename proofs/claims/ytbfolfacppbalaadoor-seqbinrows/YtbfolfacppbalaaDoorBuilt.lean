/-
  The program's row of some parts, and the document's.
-/
import Derived.Test.YtbfolfacppbalaaDoorRowDoc
import Derived.Deep.RegionWith
namespace Go.Proofs.YtbfolfacppbalaaDoor
open Go.RowKit

/-- The row, and how many bits it has, behind k parts. -/
def acc (pW : Nat → Nat) (pN : Nat → Int) : Nat → Nat × Nat
  | 0 => (0, 0)
  | k + 1 => (addV (acc pW pN k).1 (acc pW pN k).2 (pW k) (pN k), addN (acc pW pN k).2 (pW k) (pN k))

/-- A slice of K parts is read. -/
def PRd (w : World) (v : Value) (K : Nat) (pW : Nat → Nat) (pN : Nat → Int) : Prop :=
  (K = 0 ∧ ∃ ao cap, v = .slice ao 0 cap) ∨ ∃ g o cap, v = .slice (some ⟨g, o, none⟩) K cap ∧ g < w.heap.size ∧
    ∀ j, j < K → w.cell? ⟨g, o + j * 2, none⟩ = some (.int .u64 (pW j : Nat)) ∧ w.cell? ⟨g, o + j * 2 + 1, none⟩ = some (.int .i64 (pN j)) ∧ pW j < 18446744073709551616
theorem PRd.shape {w : World} {v : Value} {K : Nat} {pW : Nat → Nat} {pN : Nat → Int} (h : PRd w v K pW pN) : ∃ ao cap, v = .slice ao K cap := by
  rcases h with ⟨rfl, ao, cap, rfl⟩ | ⟨g, o, cap, rfl, _⟩
  · exact ⟨_, _, rfl⟩
  · exact ⟨_, _, rfl⟩

theorem Keeps.own {base base' : Nat} {w w' : World} {v : Value} {n : Nat} {xs : List Value} (k : Keeps base w w') (h : w.ownsRow base' 4 1 v n xs) : w'.ownsRow base' 4 1 v n xs := by
  refine ⟨h.1, ?_⟩
  rcases h.2 with h2 | ⟨g, cap, cur, hv, hb, hg, hr⟩
  · exact .inl h2
  · exact .inr ⟨g, cap, cur, hv, hb, k.bools _ _ _ hg, hr⟩

theorem own_lowerB {w : World} {base base' : Nat} {e : TypeId} {size : Nat} {v : Value} {n : Nat} {xs : List Value} (h : w.ownsRow base e size v n xs) (hb : base' ≤ base) : w.ownsRow base' e size v n xs := by
  refine ⟨h.1, ?_⟩
  rcases h.2 with h2 | ⟨g, cap, cur, hv, hg, hr⟩
  · exact .inl h2
  · exact .inr ⟨g, cap, cur, hv, Nat.le_trans hb hg, hr⟩

theorem acc_same {pW : Nat → Nat} {pN : Nat → Int} {k V n x : Nat} {N : Int} (h : (V, n) = acc pW pN k ∧ n ≤ 64 * k) (hX : pW k = x ∧ pN k = N) (he : addErr x N ≠ 0) :
    addV V n x N = V ∧ addN n x N = n ∧ (V, n) = acc pW pN (k + 1) ∧ n ≤ 64 * (k + 1) := by
  obtain ⟨rfl, rfl⟩ := hX
  have h1 : addV V n (pW k) (pN k) = V := by simp [addV, he]
  have h2 : addN n (pW k) (pN k) = n := by simp [addN, he]
  refine ⟨h1, h2, ?_, by omega⟩
  rw [acc, ← h.1]
  simp only [h1, h2]
theorem acc_more {pW : Nat → Nat} {pN : Nat → Int} {k V n x : Nat} {N : Nat} (h : (V, n) = acc pW pN k ∧ n ≤ 64 * k) (hX : pW k = x ∧ pN k = (N : Int)) (hN : N ≤ 64) (he : addErr x N = 0) :
    addV V n x N = cat V n x ∧ addN n x N = n + N ∧ (cat V n x, n + N) = acc pW pN (k + 1) ∧ n + N ≤ 64 * (k + 1) := by
  obtain ⟨rfl, hN2⟩ := hX
  have h1 : addV V n (pW k) N = cat V n (pW k) := by simp [addV, he]
  have h2 : addN n (pW k) N = n + N := by simp [addN, he]
  refine ⟨h1, h2, ?_, by omega⟩
  rw [acc, ← h.1, hN2]
  simp only [h1, h2]

set_option maxHeartbeats 3200000 in
set_option maxRecDepth 1000000 in
theorem built (v : Value) (K : Nat) (pW : Nat → Nat) (pN : Nat → Int) (w : World) (h : PRd w v K pW pN) (hK : K ≤ 1000000) :
    Calls Tryd.prog 8 #[v] w fun e w' => ∃ b vo V n, e = .returned (.tuple #[.pointer (some ⟨b, 0, none⟩), vo, .bool true]) ∧ (V, n) = acc pW pN K ∧ n ≤ 64 * K ∧ RowAt w' w.heap.size b V n ∧ w'.ownsRow w.heap.size 4 1 vo n (bools V n) ∧ Below w.heap.size w w' := by
  obtain ⟨ao, cap, rfl⟩ := h.shape
  have HH : Hid _ := h
  clear h
  have hrow0 : RowAt (w.alloc (.cells #[.slice none 0 0, .int .i64 0] 93)) w.heap.size w.heap.size 0 0 :=
    ⟨Nat.le_refl _, by decide, by decide, _, heap_alloc_new _ _, World.ownsRow_nil _ _ _ _⟩
  have HR0 : Hid _ := And.intro hrow0 ((Below.refl w.heap.size w).alloc (Nat.le_refl _) (.cells #[.slice none 0 0, .int .i64 0] 93))
  clear hrow0
  go_enter Tryd.func8, Tryd.ntmps8
  go_wp2_with (go_at_call 44; refine (new_row _).mono ?_; rintro e w' ⟨rfl, rfl⟩)
  go_loopw [6, 7] (fun vo i wr => ∃ k V n : Nat, k ≤ K ∧ i = .int .i64 k ∧ Hid ((V, n) = acc pW pN k ∧ n ≤ 64 * k) ∧ Hid (RowAt wr w.heap.size w.heap.size V n ∧ wr.ownsRow w.heap.size 4 1 vo n (bools V n) ∧ Below w.heap.size w wr)) (fun _ i _ => K - (intOf i).toNat)
  case atStart => exact ⟨0, 0, 0, Nat.zero_le _, rfl, Hid.mk ⟨rfl, Nat.le_refl _⟩, Hid.mk ⟨HR0.out.1, World.ownsRow_nil _ _ _ _, HR0.out.2⟩⟩
  case round =>
    obtain ⟨k, V, n, hk, rfl, hacc, hown⟩ := hrel
    obtain ⟨ao1, cap1, rfl⟩ := shape_of hown.out.2.1
    by_cases hkK : k < K
    · obtain ⟨g, o, rfl, hg, hc⟩ : ∃ g o, ao = some ⟨g, o, none⟩ ∧ g < w.heap.size ∧ ∀ j, j < K → w.cell? ⟨g, o + j * 2, none⟩ = some (.int .u64 (pW j : Nat)) ∧ w.cell? ⟨g, o + j * 2 + 1, none⟩ = some (.int .i64 (pN j)) ∧ pW j < 18446744073709551616 := by
        rcases HH.out with ⟨rfl, _⟩ | ⟨g, o, cap', h, hg, hc⟩
        · omega
        · simp at h; exact ⟨g, o, h.1, hg, hc⟩
      obtain ⟨hcW, hcN, hx⟩ := hc k hkK
      obtain ⟨x, hxe⟩ : ∃ x, pW k = x := ⟨_, rfl⟩
      obtain ⟨N, hNe⟩ : ∃ N, pN k = N := ⟨_, rfl⟩
      rw [hxe] at hcW hx
      rw [hNe] at hcN
      have hcell : ∀ w', Below w.heap.size w w' → w'.cell? ⟨g, o + k * 2, none⟩ = some (.int .u64 (x : Nat)) ∧ w'.cell? ⟨g, o + k * 2 + 1, none⟩ = some (.int .i64 N) := fun w' hb =>
        ⟨(hb.cell (p := ⟨g, o + k * 2, none⟩) hg).trans hcW, (hb.cell (p := ⟨g, o + k * 2 + 1, none⟩) hg).trans hcN⟩
      have HC : Hid _ := hcell
      have HX : Hid _ := And.intro hxe hNe
      clear hc hcW hcN hcell hxe hNe HH
      obtain ⟨cW, cN⟩ := HC.out wr hown.out.2.2
      have hnl : n + 64 ≤ 1099511627776 := by have := hacc.out.2; omega
      have hadd := fun (m : Nat) => row_add w.heap.size w.heap.size V n x N (wr.drewN m) (More.row hown.out.1 (More.drewN _ _)) hown.out.2.2.size hx hnl
      have hst : ∀ (m : Nat) (w2 : World), RowAt w2 w.heap.size w.heap.size (addV V n x N) (addN n x N) ∧ Keeps w.heap.size (wr.drewN m) w2 →
          RowAt w2 w.heap.size w.heap.size (addV V n x N) (addN n x N) ∧ w2.ownsRow w.heap.size 4 1 (.slice ao1 n cap1) n (bools V n) ∧ Below w.heap.size w w2 := fun m w2 h =>
        ⟨h.1, h.2.own (More.own hown.out.2.1 (More.drewN _ _)), hown.out.2.2.trans (Below.trans ((More.drewN wr m).mono hown.out.2.2.size) h.2.below)⟩
      have HS : Hid _ := hst
      clear hst
      by_cases hbad : N < 0 ∨ 64 < N
      · have he : addErr x N = 1 := by simp [addErr, hbad]
        have hsame := acc_same hacc.out HX.out (by rw [he]; decide)
        have HE : Hid _ := hsame
        clear hsame
        rcases (show N < 0 ∨ (0 ≤ N ∧ 64 < N) by omega) with hN | ⟨hN0, hN⟩
        all_goals
          clear hbad
          go_wp2_with fail
          go_region_with (go_at_call 45; refine (hadd _).mono ?_; rintro e w2 ⟨rfl, hrow2, hkeep2⟩; have HK := Hid.mk (HS.out _ _ ⟨hrow2, hkeep2⟩); clear hrow2 hkeep2; obtain ⟨dW, dN⟩ := HC.out w2 HK.out.2.2)
          all_goals
            go_wp2
            refine ⟨⟨k + 1, V, n, by omega, by go_num, Hid.mk HE.out.2.2, Hid.mk ?_⟩, by simp [intOf]; omega⟩
            have := HK.out
            rw [HE.out.1, HE.out.2.1] at this
            exact this
      · obtain ⟨N, rfl⟩ := Int.eq_ofNat_of_zero_le (show 0 ≤ N by omega)
        have hN : N ≤ 64 := by omega
        have hN0 : (0 : Int) ≤ N := by omega
        have hN1 : (N : Int) ≤ 64 := by omega
        clear hbad
        by_cases hb : N < Lib.bitLen x
        · have he : addErr x N = 8 := by simp [addErr, hb]; omega
          have hsame := acc_same hacc.out HX.out (by rw [he]; decide)
          have HE : Hid _ := hsame
          have hmay : ∀ w, Calls Tryd.prog 46 #[.int .u64 (x : Int), .int .i64 (N : Int)] w fun e w' => e = .returned (.bool false) ∧ w' = w := fun w => by
            have := may x N hx w
            rwa [he] at this
          clear hsame hb
          go_wp2_with fail
          go_region_with (go_at_call 45; refine (hadd _).mono ?_; rintro e w2 ⟨rfl, hrow2, hkeep2⟩; have HK := Hid.mk (HS.out _ _ ⟨hrow2, hkeep2⟩); clear hrow2 hkeep2; obtain ⟨dW, dN⟩ := HC.out w2 HK.out.2.2)
          all_goals
            go_wp2_with fail
            go_quiet ((go_at_call 46; exact Calls.quiet_of_same (hmay _)))
            go_wp2
            refine ⟨⟨k + 1, V, n, by omega, by go_num, Hid.mk HE.out.2.2, Hid.mk ?_⟩, by simp [intOf]; omega⟩
            have := HK.out
            rw [HE.out.1, HE.out.2.1] at this
            exact ⟨More.row this.1 (More.drewN _ _), More.own this.2.1 (More.drewN _ _), this.2.2.trans ((More.drewN _ _).mono this.2.2.size)⟩
        · have he : addErr x N = 0 := by simp [addErr, hb]; omega
          have hsame := acc_more hacc.out HX.out hN he
          have HE : Hid _ := hsame
          have hmay : ∀ w, Calls Tryd.prog 46 #[.int .u64 (x : Int), .int .i64 (N : Int)] w fun e w' => e = .returned (.bool true) ∧ w' = w := fun w => by
            have := may x N hx w
            rwa [he] at this
          clear hsame hb
          go_wp2_with fail
          go_region_with (go_at_call 45; refine (hadd _).mono ?_; rintro e w2 ⟨rfl, hrow2, hkeep2⟩; have HK := Hid.mk (HS.out _ _ ⟨hrow2, hkeep2⟩); clear hrow2 hkeep2; obtain ⟨dW, dN⟩ := HC.out w2 HK.out.2.2)
          all_goals
            go_wp2_with fail
            go_quiet ((go_at_call 46; exact Calls.quiet_of_same (hmay _)))
            have hra := fun (m : Nat) => ref_add w.heap.size n V x N (.slice ao1 n cap1) (w2.drewN m) (More.own HK.out.2.1 (More.drewN _ _)) hown.out.1.fit hx (by omega) hN
            go_wp2_with fail
            go_region_with (go_at_call 47; refine (hra _).mono ?_; rintro e w3 ⟨v3, rfl, hown3, hm3⟩; have HL : Hid _ := And.intro hown3 hm3; clear hown3 hm3)
            all_goals
              go_wp2
              refine ⟨⟨k + 1, cat V n x, n + N, by omega, by go_num, Hid.mk HE.out.2.2, Hid.mk ?_⟩, by simp [intOf]; omega⟩
              have := HK.out
              rw [HE.out.1, HE.out.2.1] at this
              have hm := More.trans (More.drewN w2 _) HL.out.2
              exact ⟨More.row this.1 hm, own_lowerB HL.out.1 this.2.2.size, this.2.2.trans (hm.mono this.2.2.size)⟩
    · go_wp2
      obtain rfl : k = K := by omega
      go_ret3
      exact ⟨_, _, V, n, rfl, hacc.out.1, hacc.out.2, hown.out⟩

end Go.Proofs.YtbfolfacppbalaaDoor
