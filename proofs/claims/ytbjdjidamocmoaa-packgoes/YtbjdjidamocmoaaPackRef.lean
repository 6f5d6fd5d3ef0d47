/-
  The document's own answers: Width, Words, Find, Rises, Of.
-/
import Derived.Test.YtbjdjidamocmoaaPackFind
namespace Go.Proofs.Ytbjdjidamocmoaa
open Go.RowKit

theorem own_lower {w : World} {base base' : Nat} {e : TypeId} {size : Nat} {v : Value} {n : Nat} {xs : List Value} (h : w.ownsRow base e size v n xs) (hb : base' ≤ base) : w.ownsRow base' e size v n xs := by
  refine ⟨h.1, ?_⟩
  rcases h.2 with h2 | ⟨g, cap, cur, hv, hg, hr⟩
  · exact .inl h2
  · exact .inr ⟨g, cap, cur, hv, Nat.le_trans hb hg, hr⟩

theorem refp_width (v : Value) (K : Nat) (f : Nat → Nat) (w : World) (h : Rd w v K f) (hf : ∀ j, j < K → f j < 18446744073709551616) (hK : K ≤ 1000000) :
    Calls Try.prog 9 #[v] w fun e w' => e = .returned (.int .i64 (wid f K)) ∧ w' = w := by
  obtain ⟨ao, cap, rfl⟩ := h.shape
  have HH : Hid _ := And.intro h hf
  clear h hf
  go_enter Try.func9, Try.ntmps9
  go_wp2
  go_loop [3, 4] (fun s i => ∃ k D : Nat, k ≤ K ∧ i = .int .i64 k ∧ s = .int .i64 D ∧ D ≤ 64 ∧ Hid (D = wid f k)) (fun _ i => K - (intOf i).toNat)
  case atStart => exact ⟨0, 0, Nat.zero_le _, rfl, rfl, by omega, Hid.mk rfl⟩
  case round =>
    obtain ⟨k, D, hk, rfl, rfl, hD64, hD⟩ := hrel
    by_cases hkK : k < K
    · obtain ⟨g, o, rfl, hc⟩ := HH.out.1.cell (w' := w) k hkK
      have hck := hc (Below.refl _ _)
      clear hc
      have hwid := ref_Width (f k) (HH.out.2 k hkK) w
      have hb64 := bitLen_le64 (f k) (HH.out.2 k hkK)
      obtain ⟨B, hB⟩ : ∃ B, Lib.bitLen (f k) = B := ⟨_, rfl⟩
      rw [hB] at hwid hb64
      have HB : Hid _ := hB
      clear hB
      go_wp2_with (go_at_call 26; refine hwid.mono ?_; rintro e w1 ⟨rfl, hw⟩; subst w1)
      refine ⟨⟨k + 1, max D B, by omega, by go_num, by go_num, by omega, Hid.mk ?_⟩, by simp [intOf]; omega⟩
      rw [wid, HB.out, ← hD.out]
    · obtain rfl : k = K := by omega
      go_wp2
      go_ret
      rw [← hD.out]
      exact ⟨rfl, rfl⟩

set_option maxRecDepth 1000000 in
theorem refp_words (v : Value) (K d : Nat) (f : Nat → Nat) (w : World) (h : Rd w v K f) (hf : ∀ j, j < K → f j < 2 ^ d) (hd : d ≤ 64) (hK : K ≤ 1000000) :
    Calls Try.prog 27 #[.int .i64 d, v] w fun e w' => ∃ v', e = .returned v' ∧ w'.ownsRow w.heap.size 31 1 v' (nw (d * K)) (u64s (wd (packV d f K)) (nw (d * K))) ∧ More w w' := by
  obtain ⟨ao, cap, rfl⟩ := h.shape
  have HH : Hid _ := And.intro h (And.intro hf hd)
  clear h hf
  go_enter Try.func27, Try.ntmps27
  go_wp2
  go_loopw [5, 6] (fun r i wr => ∃ k : Nat, k ≤ K ∧ i = .int .i64 k ∧ Hid (wr.ownsRow w.heap.size 4 1 r (d * k) (bools (packV d f k) (d * k)) ∧ Below w.heap.size w wr)) (fun _ i _ => K - (intOf i).toNat)
  case atStart => exact ⟨0, Nat.zero_le _, rfl, Hid.mk ⟨World.ownsRow_nil _ _ _ _, Below.refl _ _⟩⟩
  case round =>
    obtain ⟨k, hk, rfl, hown⟩ := hrel
    have hV := packV_lt d f k fun j hj => HH.out.2.1 j (by omega)
    have hnl : d * k ≤ 64000000 := by
      have := Nat.mul_le_mul HH.out.2.2 (show k ≤ 1000000 by omega)
      omega
    by_cases hkK : k < K
    · obtain ⟨g, o, rfl, hc⟩ := HH.out.1.cell (w' := wr) k hkK
      have hck := hc hown.out.2
      clear hc
      have hx : f k < 18446744073709551616 := Nat.lt_of_lt_of_le (HH.out.2.1 k hkK) (pow_le64 HH.out.2.2)
      obtain ⟨ao1, cap1, hs⟩ := shape_of hown.out.1
      have hadd := ref_add w.heap.size (d * k) (packV d f k) (f k) d _ wr hown.out.1 hV hx (by omega) HH.out.2.2
      subst hs
      clear hV hx hnl
      go_wp2_with (go_at_call 37; refine hadd.mono ?_; rintro e w1 ⟨v1, rfl, hown1, hm1⟩; have H1 := Hid.mk (And.intro (own_lower hown1 hown.out.2.size) (More.trans hown.out.2 hm1)); clear hown1 hm1; obtain ⟨ao2, cap2, hs2⟩ := shape_of H1.out.1; subst hs2)
      refine ⟨⟨k + 1, by omega, by go_num, Hid.mk H1.out⟩, by simp [intOf]; omega⟩
    · obtain rfl : k = K := by omega
      obtain ⟨ao1, cap1, hs⟩ := shape_of hown.out.1
      have hwo := ref_words _ (d * k) (packV d f k) wr (brd_of_own hown.out.1) hV (by omega)
      subst hs
      clear hV hnl
      go_wp2_with (go_at_call 38; refine hwo.mono ?_; rintro e w1 ⟨v1, rfl, hown1, hm1⟩; have H1 := Hid.mk (And.intro (own_lower hown1 hown.out.2.size) (More.trans hown.out.2 hm1)); clear hown1 hm1; obtain ⟨ao2, cap2, hs2⟩ := shape_of H1.out.1; subst hs2)
      go_ret
      exact ⟨_, rfl, H1.out⟩

theorem refp_find (s : Value) (K v : Nat) (f : Nat → Nat) (lo hi : Int) (w : World) (h : Rd w s K f) (hK : K ≤ 1000000) :
    Calls Try.prog 20 #[s, .int .i64 lo, .int .i64 hi, .int .u64 v] w fun e w' => ∃ r, e = .returned (.int .i64 r) ∧ IsFind f K lo hi v r ∧ w' = w := by
  obtain ⟨ao, cap, rfl⟩ := h.shape
  have HH : Hid _ := h
  clear h
  go_enter Try.func20, Try.ntmps20
  go_wp2
  go_loop [9] (fun i => ∃ k : Nat, k ≤ K ∧ i = .int .i64 k ∧ Hid (∀ j : Nat, j < k → lo ≤ j → j < hi → f j < v)) (fun i => K - (intOf i).toNat)
  case atStart => exact ⟨0, Nat.zero_le _, rfl, Hid.mk fun j hj => by omega⟩
  case round =>
    obtain ⟨k, hk, rfl, hw⟩ := hrel
    by_cases hkK : k < K
    · obtain ⟨g, o, rfl, hc⟩ := Rd.cell HH.out (w' := w) k hkK
      have hck := hc (Below.refl _ _)
      clear hc
      rcases (show (k : Int) < lo ∨ (lo ≤ k ∧ hi ≤ k) ∨ (lo ≤ k ∧ (k : Int) < hi) by omega) with h1 | ⟨h1, h2⟩ | ⟨h1, h2⟩
      · go_wp2
        refine ⟨⟨k + 1, by omega, by go_num, Hid.mk fun j hj a b => ?_⟩, by simp [intOf]; omega⟩
        exact hw.out j (by omega) a b
      · go_wp2
        refine ⟨⟨k + 1, by omega, by go_num, Hid.mk fun j hj a b => ?_⟩, by simp [intOf]; omega⟩
        exact hw.out j (by omega) a b
      · by_cases h3 : v ≤ f k
        · go_wp2
          go_ret
          exact ⟨_, rfl, .inr ⟨k, rfl, hkK, h1, h2, h3, fun j hj a => hw.out j hj a (by omega)⟩, rfl⟩
        · go_wp2
          refine ⟨⟨k + 1, by omega, by go_num, Hid.mk fun j hj a b => ?_⟩, by simp [intOf]; omega⟩
          rcases (show j < k ∨ j = k by omega) with h | rfl
          · exact hw.out j h a b
          · omega
    · obtain rfl : k = K := by omega
      go_wp2
      go_ret
      exact ⟨_, rfl, .inl ⟨rfl, hw.out⟩, rfl⟩

theorem refp_rises (s : Value) (K : Nat) (f : Nat → Nat) (lo hi : Int) (w : World) (h : Rd w s K f) (hK : K ≤ 1000000) :
    Calls Try.prog 18 #[s, .int .i64 lo, .int .i64 hi] w fun e w' => ∃ r, e = .returned (.bool r) ∧ (r = true ↔ Rising f K lo hi) ∧ ∃ m, w' = w.drewN m := by
  obtain ⟨ao, cap, rfl⟩ := h.shape
  have HH : Hid _ := h
  clear h
  go_enter Try.func18, Try.ntmps18
  go_wp2
  go_loopw [7] (fun i wr => ∃ k : Nat, 1 ≤ k ∧ (k ≤ K ∨ k = 1) ∧ i = .int .i64 k ∧ (∃ m, wr = w.drewN m) ∧ Hid (∀ j : Nat, 1 ≤ j → j < k → lo < j → j < hi → f (j - 1) ≤ f j)) (fun i _ => K - (intOf i).toNat)
  case atStart => exact ⟨1, Nat.le_refl _, .inr rfl, rfl, ⟨0, rfl⟩, Hid.mk fun j h1 h2 => by omega⟩
  case round =>
    obtain ⟨k, hk1, hk, rfl, ⟨m, rfl⟩, hw⟩ := hrel
    by_cases hkK : k < K
    · obtain ⟨t, rfl⟩ : ∃ t, k = t + 1 := ⟨k - 1, by omega⟩
      obtain ⟨g, o, rfl, hc⟩ := Rd.cell HH.out (w' := w) (t + 1) hkK
      have hck := hc (Below.refl _ _)
      clear hc
      obtain ⟨g', o', he, hc'⟩ := Rd.cell HH.out (w' := w) t (by omega)
      simp at he
      obtain ⟨rfl, rfl⟩ := he
      have hck' := hc' (Below.refl _ _)
      clear hc'
      rcases (show ((t + 1 : Nat) : Int) ≤ lo ∨ (lo < (t + 1 : Nat) ∧ hi ≤ (t + 1 : Nat)) ∨ (lo < (t + 1 : Nat) ∧ ((t + 1 : Nat) : Int) < hi) by omega) with h1 | ⟨h1, h2⟩ | ⟨h1, h2⟩
      · have hd1 : decide (lo < (t : Int) + 1) = false := by simp; omega
        go_wp2_with fail
        go_quiet (fail)
        go_wp2
        refine ⟨⟨t + 1 + 1, by omega, by omega, by go_num, ⟨_, rfl⟩, Hid.mk fun j a b c d => ?_⟩, by simp [intOf]; omega⟩
        exact hw.out j a (by omega) c d
      · have hd1 : decide (lo < (t : Int) + 1) = true := by simp; omega
        have hd2 : decide ((t : Int) + 1 < hi) = false := by simp; omega
        go_wp2_with fail
        go_quiet (fail)
        go_wp2
        refine ⟨⟨t + 1 + 1, by omega, by omega, by go_num, ⟨_, rfl⟩, Hid.mk fun j a b c d => ?_⟩, by simp [intOf]; omega⟩
        exact hw.out j a (by omega) c d
      · have hd1 : decide (lo < (t : Int) + 1) = true := by simp; omega
        have hd2 : decide ((t : Int) + 1 < hi) = true := by simp; omega
        by_cases h3 : f (t + 1) < f t
        · go_wp2_with fail
          go_quiet (fail)
          go_wp2
          go_ret
          refine ⟨_, rfl, ?_, _, by simp; rfl⟩
          simp only [Bool.false_eq_true, false_iff]
          intro hh
          have := hh (t + 1) (by omega) hkK h1 h2
          simp at this
          omega
        · go_wp2_with fail
          go_quiet (fail)
          go_wp2
          refine ⟨⟨t + 1 + 1, by omega, by omega, by go_num, ⟨_, rfl⟩, Hid.mk fun j a b c d => ?_⟩, by simp [intOf]; omega⟩
          rcases (show j < t + 1 ∨ j = t + 1 by omega) with h | rfl
          · exact hw.out j a h c d
          · simp; omega
    · go_wp2
      go_ret
      exact ⟨_, rfl, ⟨fun _ j a b c d => hw.out j a (by omega) c d, fun _ => rfl⟩, m, rfl⟩

end Go.Proofs.Ytbjdjidamocmoaa
